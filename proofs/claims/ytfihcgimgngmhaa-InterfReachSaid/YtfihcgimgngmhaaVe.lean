/- Three chains in one drawn region, S asked only till number m is done: whatever the order. No condition: nothing here speaks of a program. -/
import Derived.Test.YtfihcgimgngmhaaVb
import Derived.Test.YtfihcgimgngmhaaVc
import Derived.Test.YtfihcgimgngmhaaVd
import Derived.Test.YtfihcgimgngmhaaVa
import Derived.Laws.StructEq
import Derived.Maps.RangeWalk
import Derived.Maps.OwnSet
import Derived.Laws.CopyRow
namespace Go.Proofs.Ytfihcgimgngmhaa
open Go.RowKit
section
variable {P : Program} {md : Region.Mode} {ops : Array Oper} {Q : Exit → Act → World → Prop} {S : World → Prop} {m : Nat}
theorem chainsU3 {c1 c2 c3 : Chn} {base : Nat} {a0 : Act} {w0 : World} {L0 : Array Bool} {ou1 os1 ou2 os2 ou3 os3 : Operand} {U1 U2 U3 : Value} {b1 a1 b2 a2 b3 a3 nE : Nat}
    (O1 : Op2 P ops Q c1 base ou1 os1 U1 b1 a1) (O2 : Op2 P ops Q c2 base ou2 os2 U2 b2 a2) (O3 : Op2 P ops Q c3 base ou3 os3 U3 b3 a3)
    (hc : chk3 md ops L0 b1 a1 b2 a2 b3 a3 = true)
    (hi : [b1, a1, b2, a2, b3, a3].Nodup) (hs : [c1.b, c1.d, c2.b, c2.d, c3.b, c3.d].Nodup)
    (hoff : ∀ o, o ∈ [ou1, os1, ou2, os2, ou3, os3] → ∀ t, t ∈ [c1.b, c1.d, c2.b, c2.d, c3.b, c3.d] → o ≠ .tmp t)
    (hu1 : a0.eval ou1 = U1) (hu2 : a0.eval ou2 = U2) (hu3 : a0.eval ou3 = U3) (hx1 : a0.eval os1 = c1.x0) (hx2 : a0.eval os2 = c2.x0) (hx3 : a0.eval os3 = c3.x0)
    (hz1 : c1.b < a0.tmps.size) (hz2 : c2.b < a0.tmps.size) (hz3 : c3.b < a0.tmps.size)
    (hS : ∀ w, Kp3 c1.x0.ownBlock c2.x0.ownBlock c3.x0.ownBlock w0 w → S w)
    (hE : ∀ p1 q1 p2 q2 p3 q3 w, St3 c1 c2 c3 base w0 w 2 p1 q1 2 p2 q2 2 p3 q3 → anyU P md ops Q S m nE (bitC 2 b3 a3 (bitC 2 b2 a2 (bitC 2 b1 a1 L0))) (c3.fr 2 p3 q3 (c2.fr 2 p2 q2 (c1.fr 2 p1 q1 a0))) w) :
    ∀ (r s1 s2 s3 : Nat), s1 ≤ 2 → s2 ≤ 2 → s3 ≤ 2 → r + (s1 + s2 + s3) = 6 → ∀ (p1 q1 p2 q2 p3 q3 : Value) (w : World), St3 c1 c2 c3 base w0 w s1 p1 q1 s2 p2 q2 s3 p3 q3 →
      anyU P md ops Q S m (nE + r) (bitC s3 b3 a3 (bitC s2 b2 a2 (bitC s1 b1 a1 L0))) (c3.fr s3 p3 q3 (c2.fr s2 p2 q2 (c1.fr s1 p1 q1 a0))) w := by
  have ev : ∀ (o : Operand), o ∈ [ou1, os1, ou2, os2, ou3, os3] → ∀ (s1 s2 s3 : Nat) (p1 q1 p2 q2 p3 q3 : Value), (c3.fr s3 p3 q3 (c2.fr s2 p2 q2 (c1.fr s1 p1 q1 a0))).eval o = a0.eval o := fun o ho s1 s2 s3 p1 q1 p2 q2 p3 q3 => by
    rw [c3.fr_eval s3 p3 q3 _ (hoff o ho _ (by simp)) (hoff o ho _ (by simp)), c2.fr_eval s2 p2 q2 _ (hoff o ho _ (by simp)) (hoff o ho _ (by simp)), c1.fr_eval s1 p1 q1 _ (hoff o ho _ (by simp)) (hoff o ho _ (by simp))]
  simp only [List.nodup_cons, List.mem_cons, List.not_mem_nil, or_false, not_or, List.nodup_nil, and_true, not_false_eq_true] at hi hs
  obtain ⟨⟨i12, i13, i14, i15, i16⟩, ⟨i23, i24, i25, i26⟩, ⟨i34, i35, i36⟩, ⟨i45, i46⟩, i56⟩ := hi
  obtain ⟨⟨t12, t13, t14, t15, t16⟩, ⟨t23, t24, t25, t26⟩, ⟨t34, t35, t36⟩, ⟨t45, t46⟩, t56⟩ := hs
  intro r
  induction r with
  | zero =>
    intro s1 s2 s3 h1 h2 h3 hr p1 q1 p2 q2 p3 q3 w H
    obtain rfl : s1 = 2 := by omega
    obtain rfl : s2 = 2 := by omega
    obtain rfl : s3 = 2 := by omega
    exact hE p1 q1 p2 q2 p3 q3 w H
  | succ r ih =>
    intro s1 s2 s3 h1 h2 h3 hr p1 q1 p2 q2 p3 q3 w H
    obtain ⟨hne, hall⟩ := chk3_at hc h1 h2 h3 (by omega)
    refine ⟨fun h0 => absurd h0 hne, fun i hin => ?_⟩
    rcases hall i hin with ⟨rfl, rfl⟩ | ⟨rfl, rfl⟩ | ⟨rfl, rfl⟩ | ⟨rfl, rfl⟩ | ⟨rfl, rfl⟩ | ⟨rfl, rfl⟩
    · have H' : St3 c1 c2 c3 base w0 (w.alloc (.cells c1.z.toArray c1.e)) 1 (.slice (some ⟨w.heap.size, 0, none⟩) 1 1) q1 s2 p2 q2 s3 p3 q3 := ⟨H.a1.build, H.a2.alloc _, H.a3.alloc _, (Jt.build H.j12 H.a2), (Jt.build H.j13 H.a3), H.j23, H.kp.step (World.grownBy_alloc w _ none) (.inl rfl), Nat.le_trans H.hb (World.grownBy_alloc w _ none).size⟩
      refine O1.build _ w _ ((ev _ (by simp) _ _ _ _ _ _ _ _ _).trans hu1) ⟨fun _ _ => hS _ H'.kp, ?_⟩
      have A := ih 1 s2 s3 (by omega) (by omega) (by omega) (by omega) _ q1 p2 q2 p3 q3 _ H'
      rw [bit_set s3 _ (ib := b3) (ia := a3) (i := i) (by first | assumption | (exact Ne.symm (by assumption))) (by first | assumption | (exact Ne.symm (by assumption))), bit_set s2 _ (ib := b2) (ia := a2) (i := i) (by first | assumption | (exact Ne.symm (by assumption))) (by first | assumption | (exact Ne.symm (by assumption))), c3.fr_put s3 p3 q3 _ (i := c1.b) (by first | assumption | (exact Ne.symm (by assumption))) (by first | assumption | (exact Ne.symm (by assumption))), c2.fr_put s2 p2 q2 _ (i := c1.b) (by first | assumption | (exact Ne.symm (by assumption))) (by first | assumption | (exact Ne.symm (by assumption)))]
      exact A
    · obtain ⟨g, hg, hrow⟩ := H.a1.lit rfl
      refine O1.append _ w _ g ((ev _ (by simp) _ _ _ _ _ _ _ _ _).trans hx1) (by rw [c3.fr_eval s3 p3 q3 _ (o := .tmp c1.b) (by simp only [ne_eq, Operand.tmp.injEq]; first | assumption | (exact Ne.symm (by assumption))) (by simp only [ne_eq, Operand.tmp.injEq]; first | assumption | (exact Ne.symm (by assumption))), c2.fr_eval s2 p2 q2 _ (o := .tmp c1.b) (by simp only [ne_eq, Operand.tmp.injEq]; first | assumption | (exact Ne.symm (by assumption))) (by simp only [ne_eq, Operand.tmp.injEq]; first | assumption | (exact Ne.symm (by assumption))), c1.fr_lit p1 q1 _ (by first | exact hz1 | (simp only [Chn.fr_size]; exact hz1))]; exact hg) H.hb H.a1.row hrow fun v w' hv1 hv2 hv => ?_
      have H' : St3 c1 c2 c3 base w0 w' 2 p1 v s2 p2 q2 s3 p3 q3 := ⟨⟨hv1, fun h => by cases h⟩, H.a2.append (H.j12) hv2, H.a3.append (H.j13) hv2, (Jt.append (H.j12) H.a2 hv), (Jt.append (H.j13) H.a3 hv), H.j23, H.kp.step hv2 (.inr (.inl rfl)), Nat.le_trans H.hb hv2.size⟩
      refine ⟨fun _ _ => hS _ H'.kp, ?_⟩
      have A := ih 2 s2 s3 (by omega) (by omega) (by omega) (by omega) p1 v p2 q2 p3 q3 _ H'
      rw [bit_set s3 _ (ib := b3) (ia := a3) (i := i) (by first | assumption | (exact Ne.symm (by assumption))) (by first | assumption | (exact Ne.symm (by assumption))), bit_set s2 _ (ib := b2) (ia := a2) (i := i) (by first | assumption | (exact Ne.symm (by assumption))) (by first | assumption | (exact Ne.symm (by assumption))), c3.fr_put s3 p3 q3 _ (i := c1.d) (by first | assumption | (exact Ne.symm (by assumption))) (by first | assumption | (exact Ne.symm (by assumption))), c2.fr_put s2 p2 q2 _ (i := c1.d) (by first | assumption | (exact Ne.symm (by assumption))) (by first | assumption | (exact Ne.symm (by assumption)))]
      exact A
    · have H' : St3 c1 c2 c3 base w0 (w.alloc (.cells c2.z.toArray c2.e)) s1 p1 q1 1 (.slice (some ⟨w.heap.size, 0, none⟩) 1 1) q2 s3 p3 q3 := ⟨H.a1.alloc _, H.a2.build, H.a3.alloc _, (Jt.build H.j12.symm H.a1).symm, H.j13, (Jt.build H.j23 H.a3), H.kp.step (World.grownBy_alloc w _ none) (.inl rfl), Nat.le_trans H.hb (World.grownBy_alloc w _ none).size⟩
      refine O2.build _ w _ ((ev _ (by simp) _ _ _ _ _ _ _ _ _).trans hu2) ⟨fun _ _ => hS _ H'.kp, ?_⟩
      have A := ih s1 1 s3 (by omega) (by omega) (by omega) (by omega) p1 q1 _ q2 p3 q3 _ H'
      rw [bit_set s3 _ (ib := b3) (ia := a3) (i := i) (by first | assumption | (exact Ne.symm (by assumption))) (by first | assumption | (exact Ne.symm (by assumption))), c3.fr_put s3 p3 q3 _ (i := c2.b) (by first | assumption | (exact Ne.symm (by assumption))) (by first | assumption | (exact Ne.symm (by assumption)))]
      exact A
    · obtain ⟨g, hg, hrow⟩ := H.a2.lit rfl
      refine O2.append _ w _ g ((ev _ (by simp) _ _ _ _ _ _ _ _ _).trans hx2) (by rw [c3.fr_eval s3 p3 q3 _ (o := .tmp c2.b) (by simp only [ne_eq, Operand.tmp.injEq]; first | assumption | (exact Ne.symm (by assumption))) (by simp only [ne_eq, Operand.tmp.injEq]; first | assumption | (exact Ne.symm (by assumption))), c2.fr_lit p2 q2 _ (by first | exact hz2 | (simp only [Chn.fr_size]; exact hz2))]; exact hg) H.hb H.a2.row hrow fun v w' hv1 hv2 hv => ?_
      have H' : St3 c1 c2 c3 base w0 w' s1 p1 q1 2 p2 v s3 p3 q3 := ⟨H.a1.append (H.j12.symm) hv2, ⟨hv1, fun h => by cases h⟩, H.a3.append (H.j23) hv2, (Jt.append (H.j12.symm) H.a1 hv).symm, H.j13, (Jt.append (H.j23) H.a3 hv), H.kp.step hv2 (.inr (.inr (.inl rfl))), Nat.le_trans H.hb hv2.size⟩
      refine ⟨fun _ _ => hS _ H'.kp, ?_⟩
      have A := ih s1 2 s3 (by omega) (by omega) (by omega) (by omega) p1 q1 p2 v p3 q3 _ H'
      rw [bit_set s3 _ (ib := b3) (ia := a3) (i := i) (by first | assumption | (exact Ne.symm (by assumption))) (by first | assumption | (exact Ne.symm (by assumption))), c3.fr_put s3 p3 q3 _ (i := c2.d) (by first | assumption | (exact Ne.symm (by assumption))) (by first | assumption | (exact Ne.symm (by assumption)))]
      exact A
    · have H' : St3 c1 c2 c3 base w0 (w.alloc (.cells c3.z.toArray c3.e)) s1 p1 q1 s2 p2 q2 1 (.slice (some ⟨w.heap.size, 0, none⟩) 1 1) q3 := ⟨H.a1.alloc _, H.a2.alloc _, H.a3.build, H.j12, (Jt.build H.j13.symm H.a1).symm, (Jt.build H.j23.symm H.a2).symm, H.kp.step (World.grownBy_alloc w _ none) (.inl rfl), Nat.le_trans H.hb (World.grownBy_alloc w _ none).size⟩
      refine O3.build _ w _ ((ev _ (by simp) _ _ _ _ _ _ _ _ _).trans hu3) ⟨fun _ _ => hS _ H'.kp, ?_⟩
      have A := ih s1 s2 1 (by omega) (by omega) (by omega) (by omega) p1 q1 p2 q2 _ q3 _ H'
      exact A
    · obtain ⟨g, hg, hrow⟩ := H.a3.lit rfl
      refine O3.append _ w _ g ((ev _ (by simp) _ _ _ _ _ _ _ _ _).trans hx3) (by rw [c3.fr_lit p3 q3 _ (by first | exact hz3 | (simp only [Chn.fr_size]; exact hz3))]; exact hg) H.hb H.a3.row hrow fun v w' hv1 hv2 hv => ?_
      have H' : St3 c1 c2 c3 base w0 w' s1 p1 q1 s2 p2 q2 2 p3 v := ⟨H.a1.append (H.j13.symm) hv2, H.a2.append (H.j23.symm) hv2, ⟨hv1, fun h => by cases h⟩, H.j12, (Jt.append (H.j13.symm) H.a1 hv).symm, (Jt.append (H.j23.symm) H.a2 hv).symm, H.kp.step hv2 (.inr (.inr (.inr rfl))), Nat.le_trans H.hb hv2.size⟩
      refine ⟨fun _ _ => hS _ H'.kp, ?_⟩
      have A := ih s1 s2 2 (by omega) (by omega) (by omega) (by omega) p1 q1 p2 q2 p3 v _ H'
      exact A
theorem chainsU3_go {c1 c2 c3 : Chn} {base : Nat} {a0 : Act} {w0 : World} {L0 : Array Bool} {ou1 os1 ou2 os2 ou3 os3 : Operand} {U1 U2 U3 : Value} {b1 a1 b2 a2 b3 a3 nE : Nat}
    (O1 : Op2 P ops Q c1 base ou1 os1 U1 b1 a1) (O2 : Op2 P ops Q c2 base ou2 os2 U2 b2 a2) (O3 : Op2 P ops Q c3 base ou3 os3 U3 b3 a3)
    (hc : chk3 md ops L0 b1 a1 b2 a2 b3 a3 = true)
    (hi : [b1, a1, b2, a2, b3, a3].Nodup) (hs : [c1.b, c1.d, c2.b, c2.d, c3.b, c3.d].Nodup)
    (hoff : ∀ o, o ∈ [ou1, os1, ou2, os2, ou3, os3] → ∀ t, t ∈ [c1.b, c1.d, c2.b, c2.d, c3.b, c3.d] → o ≠ .tmp t)
    (hu1 : a0.eval ou1 = U1) (hu2 : a0.eval ou2 = U2) (hu3 : a0.eval ou3 = U3) (hx1 : a0.eval os1 = c1.x0) (hx2 : a0.eval os2 = c2.x0) (hx3 : a0.eval os3 = c3.x0)
    (hz1 : c1.b < a0.tmps.size) (hz2 : c2.b < a0.tmps.size) (hz3 : c3.b < a0.tmps.size)
    (r1 : Rw base c1.e c1.sz w0 c1.x0 c1.xs) (r2 : Rw base c2.e c2.sz w0 c2.x0 c2.xs) (r3 : Rw base c3.e c3.sz w0 c3.x0 c3.xs) (p12 : Ap c1.x0 c2.x0) (p13 : Ap c1.x0 c3.x0) (p23 : Ap c2.x0 c3.x0) (hb : base ≤ w0.heap.size)
    (hS : ∀ w, Kp3 c1.x0.ownBlock c2.x0.ownBlock c3.x0.ownBlock w0 w → S w)
    (hE : ∀ p1 q1 p2 q2 p3 q3 w, Rw base c1.e c1.sz w q1 (c1.xs ++ [c1.z]) → Rw base c2.e c2.sz w q2 (c2.xs ++ [c2.z]) → Rw base c3.e c3.sz w q3 (c3.xs ++ [c3.z]) → Ap q1 q2 → Ap q1 q3 → Ap q2 q3 → Kp3 c1.x0.ownBlock c2.x0.ownBlock c3.x0.ownBlock w0 w →
      anyU P md ops Q S m nE ((((((L0.setIfInBounds b1 true).setIfInBounds a1 true).setIfInBounds b2 true).setIfInBounds a2 true).setIfInBounds b3 true).setIfInBounds a3 true) ((((((a0.put (some c1.b) p1).put (some c1.d) q1).put (some c2.b) p2).put (some c2.d) q2).put (some c3.b) p3).put (some c3.d) q3) w) :
    anyU P md ops Q S m (nE + 6) L0 a0 w0 := by
  have st : St3 c1 c2 c3 base w0 w0 0 undef undef 0 undef undef 0 undef undef :=
    ⟨⟨r1, fun h => by cases h⟩, ⟨r2, fun h => by cases h⟩, ⟨r3, fun h => by cases h⟩, ⟨p12, (fun h => by cases h), fun h => by cases h⟩, ⟨p13, (fun h => by cases h), fun h => by cases h⟩, ⟨p23, (fun h => by cases h), fun h => by cases h⟩, Kp3.refl _ _ _ _, hb⟩
  have hE' : ∀ p1 q1 p2 q2 p3 q3 w, St3 c1 c2 c3 base w0 w 2 p1 q1 2 p2 q2 2 p3 q3 → anyU P md ops Q S m nE (bitC 2 b3 a3 (bitC 2 b2 a2 (bitC 2 b1 a1 L0))) (c3.fr 2 p3 q3 (c2.fr 2 p2 q2 (c1.fr 2 p1 q1 a0))) w := fun p1 q1 p2 q2 p3 q3 w H => by
    rw [bit_two, bit_two, bit_two, fr_two, fr_two, fr_two]
    exact hE p1 q1 p2 q2 p3 q3 w H.a1.row H.a2.row H.a3.row H.j12.ap H.j13.ap H.j23.ap H.kp
  have A := chainsU3 O1 O2 O3 hc hi hs hoff hu1 hu2 hu3 hx1 hx2 hx3 hz1 hz2 hz3 hS hE' 6 0 0 0 (by omega) (by omega) (by omega) rfl undef undef undef undef undef undef w0 st
  rw [bit_zero, bit_zero, bit_zero, fr_zero, fr_zero, fr_zero] at A
  exact A
end
end Go.Proofs.Ytfihcgimgngmhaa
/- Three chains in one drawn region whose appends are called in their order, S asked only till number m is done. No condition: nothing here speaks of a program. -/
namespace Go.Proofs.Ytfihcgimgngmhaa
open Go.RowKit
/-- At each state that may come about just these may come. -/
def chk3o (md : Region.Mode) (ops : Array Oper) (L0 : Array Bool) (b1 a1 b2 a2 b3 a3 : Nat) : Bool :=
  [0, 1, 2].all fun s1 => [0, 1, 2].all fun s2 => [0, 1, 2].all fun s3 => (s1 == 2 && s2 == 2 && s3 == 2) || ((s2 == 2 && s1 != 2) || (s3 == 2 && s2 != 2)) ||
    (let r := Region.ready md ops (bitC s3 b3 a3 (bitC s2 b2 a2 (bitC s1 b1 a1 L0)))
     !r.isEmpty && r.all fun i => (s1 == 0 && i == b1) || (s1 == 1 && i == a1) || (s2 == 0 && i == b2) || (s2 == 1 && s1 == 2 && i == a2) || (s3 == 0 && i == b3) || (s3 == 1 && s2 == 2 && i == a3))
theorem chk3o_at {md : Region.Mode} {ops : Array Oper} {L0 : Array Bool} {b1 a1 b2 a2 b3 a3 : Nat} (h : chk3o md ops L0 b1 a1 b2 a2 b3 a3 = true) {s1 s2 s3 : Nat} (h1 : s1 ≤ 2) (h2 : s2 ≤ 2) (h3 : s3 ≤ 2) (hn : s1 + s2 + s3 < 6) (o1 : s2 = 2 → s1 = 2) (o2 : s3 = 2 → s2 = 2) :
    Region.ready md ops (bitC s3 b3 a3 (bitC s2 b2 a2 (bitC s1 b1 a1 L0))) ≠ [] ∧ ∀ i, i ∈ Region.ready md ops (bitC s3 b3 a3 (bitC s2 b2 a2 (bitC s1 b1 a1 L0))) → (s1 = 0 ∧ i = b1) ∨ (s1 = 1 ∧ i = a1) ∨ (s2 = 0 ∧ i = b2) ∨ ((s2 = 1 ∧ s1 = 2) ∧ i = a2) ∨ (s3 = 0 ∧ i = b3) ∨ ((s3 = 1 ∧ s2 = 2) ∧ i = a3) := by
  unfold chk3o at h
  have m : ∀ s, s ≤ 2 → s ∈ [0, 1, 2] := fun s hs => by
    rcases s with _ | _ | _ | s
    · simp
    · simp
    · simp
    · omega
  have h4 := List.all_eq_true.1 (List.all_eq_true.1 (List.all_eq_true.1 h s1 (m s1 h1)) s2 (m s2 h2)) s3 (m s3 h3)
  have hf : (s1 == 2 && s2 == 2 && s3 == 2) = false := by
    cases h5 : (s1 == 2 && s2 == 2 && s3 == 2)
    · rfl
    · simp at h5; omega
  have hg : ((s2 == 2 && s1 != 2) || (s3 == 2 && s2 != 2)) = false := by
    cases h5 : ((s2 == 2 && s1 != 2) || (s3 == 2 && s2 != 2))
    · rfl
    · simp at h5; omega
  rw [hf, hg, Bool.false_or, Bool.false_or, Bool.and_eq_true] at h4
  refine ⟨fun e => by rw [e] at h4; simp at h4, fun i hi => ?_⟩
  have := List.all_eq_true.1 h4.2 i hi
  simpa [or_assoc] using this
section
variable {P : Program} {md : Region.Mode} {ops : Array Oper} {Q : Exit → Act → World → Prop} {S : World → Prop} {m : Nat}
set_option maxHeartbeats 1600000 in
theorem chainsU3o {c1 c2 c3 : Chn} {base : Nat} {a0 : Act} {w0 : World} {L0 : Array Bool} {ou1 os1 ou2 os2 ou3 os3 : Operand} {U1 U2 U3 : Value} {b1 a1 b2 a2 b3 a3 nE : Nat}
    (O1 : Op2 P ops Q c1 base ou1 os1 U1 b1 a1) (O2 : Op2 P ops Q c2 base ou2 os2 U2 b2 a2) (O3 : Op2 P ops Q c3 base ou3 os3 U3 b3 a3)
    (hc : chk3o md ops L0 b1 a1 b2 a2 b3 a3 = true)
    (hi : [b1, a1, b2, a2, b3, a3].Nodup) (hs : [c1.b, c1.d, c2.b, c2.d, c3.b, c3.d].Nodup)
    (hoff : ∀ o, o ∈ [ou1, os1, ou2, os2, ou3, os3] → ∀ t, t ∈ [c1.b, c1.d, c2.b, c2.d, c3.b, c3.d] → o ≠ .tmp t)
    (hu1 : a0.eval ou1 = U1) (hu2 : a0.eval ou2 = U2) (hu3 : a0.eval ou3 = U3) (hx1 : a0.eval os1 = c1.x0) (hx2 : a0.eval os2 = c2.x0) (hx3 : a0.eval os3 = c3.x0)
    (hz1 : c1.b < a0.tmps.size) (hz2 : c2.b < a0.tmps.size) (hz3 : c3.b < a0.tmps.size)
    (hS : ∀ w, Kp3 c1.x0.ownBlock c2.x0.ownBlock c3.x0.ownBlock w0 w → S w)
    (hE : ∀ p1 q1 p2 q2 p3 q3 w, St3 c1 c2 c3 base w0 w 2 p1 q1 2 p2 q2 2 p3 q3 → anyU P md ops Q S m nE (bitC 2 b3 a3 (bitC 2 b2 a2 (bitC 2 b1 a1 L0))) (c3.fr 2 p3 q3 (c2.fr 2 p2 q2 (c1.fr 2 p1 q1 a0))) w) :
    ∀ (r s1 s2 s3 : Nat), s1 ≤ 2 → s2 ≤ 2 → s3 ≤ 2 → (s2 = 2 → s1 = 2) → (s3 = 2 → s2 = 2) → r + (s1 + s2 + s3) = 6 → ∀ (p1 q1 p2 q2 p3 q3 : Value) (w : World), St3 c1 c2 c3 base w0 w s1 p1 q1 s2 p2 q2 s3 p3 q3 →
      anyU P md ops Q S m (nE + r) (bitC s3 b3 a3 (bitC s2 b2 a2 (bitC s1 b1 a1 L0))) (c3.fr s3 p3 q3 (c2.fr s2 p2 q2 (c1.fr s1 p1 q1 a0))) w := by
  have ev : ∀ (o : Operand), o ∈ [ou1, os1, ou2, os2, ou3, os3] → ∀ (s1 s2 s3 : Nat) (p1 q1 p2 q2 p3 q3 : Value), (c3.fr s3 p3 q3 (c2.fr s2 p2 q2 (c1.fr s1 p1 q1 a0))).eval o = a0.eval o := fun o ho s1 s2 s3 p1 q1 p2 q2 p3 q3 => by
    rw [c3.fr_eval s3 p3 q3 _ (hoff o ho _ (by simp)) (hoff o ho _ (by simp)), c2.fr_eval s2 p2 q2 _ (hoff o ho _ (by simp)) (hoff o ho _ (by simp)), c1.fr_eval s1 p1 q1 _ (hoff o ho _ (by simp)) (hoff o ho _ (by simp))]
  simp only [List.nodup_cons, List.mem_cons, List.not_mem_nil, or_false, not_or, List.nodup_nil, and_true, not_false_eq_true] at hi hs
  obtain ⟨⟨i12, i13, i14, i15, i16⟩, ⟨i23, i24, i25, i26⟩, ⟨i34, i35, i36⟩, ⟨i45, i46⟩, i56⟩ := hi
  obtain ⟨⟨t12, t13, t14, t15, t16⟩, ⟨t23, t24, t25, t26⟩, ⟨t34, t35, t36⟩, ⟨t45, t46⟩, t56⟩ := hs
  intro r
  induction r with
  | zero =>
    intro s1 s2 s3 h1 h2 h3 o1 o2 hr p1 q1 p2 q2 p3 q3 w H
    obtain rfl : s1 = 2 := by omega
    obtain rfl : s2 = 2 := by omega
    obtain rfl : s3 = 2 := by omega
    exact hE p1 q1 p2 q2 p3 q3 w H
  | succ r ih =>
    intro s1 s2 s3 h1 h2 h3 o1 o2 hr p1 q1 p2 q2 p3 q3 w H
    obtain ⟨hne, hall⟩ := chk3o_at hc h1 h2 h3 (by omega) o1 o2
    refine ⟨fun h0 => absurd h0 hne, fun i hin => ?_⟩
    rcases hall i hin with ⟨rfl, rfl⟩ | ⟨rfl, rfl⟩ | ⟨rfl, rfl⟩ | ⟨⟨rfl, _hp⟩, rfl⟩ | ⟨rfl, rfl⟩ | ⟨⟨rfl, _hp⟩, rfl⟩
    · have H' : St3 c1 c2 c3 base w0 (w.alloc (.cells c1.z.toArray c1.e)) 1 (.slice (some ⟨w.heap.size, 0, none⟩) 1 1) q1 s2 p2 q2 s3 p3 q3 := ⟨H.a1.build, H.a2.alloc _, H.a3.alloc _, (Jt.build H.j12 H.a2), (Jt.build H.j13 H.a3), H.j23, H.kp.step (World.grownBy_alloc w _ none) (.inl rfl), Nat.le_trans H.hb (World.grownBy_alloc w _ none).size⟩
      refine O1.build _ w _ ((ev _ (by simp) _ _ _ _ _ _ _ _ _).trans hu1) ⟨fun _ _ => hS _ H'.kp, ?_⟩
      have A := ih 1 s2 s3 (by omega) (by omega) (by omega) (by omega) (by omega) (by omega) _ q1 p2 q2 p3 q3 _ H'
      rw [bit_set s3 _ (ib := b3) (ia := a3) (i := i) (by first | assumption | (exact Ne.symm (by assumption))) (by first | assumption | (exact Ne.symm (by assumption))), bit_set s2 _ (ib := b2) (ia := a2) (i := i) (by first | assumption | (exact Ne.symm (by assumption))) (by first | assumption | (exact Ne.symm (by assumption))), c3.fr_put s3 p3 q3 _ (i := c1.b) (by first | assumption | (exact Ne.symm (by assumption))) (by first | assumption | (exact Ne.symm (by assumption))), c2.fr_put s2 p2 q2 _ (i := c1.b) (by first | assumption | (exact Ne.symm (by assumption))) (by first | assumption | (exact Ne.symm (by assumption)))]
      exact A
    · obtain ⟨g, hg, hrow⟩ := H.a1.lit rfl
      refine O1.append _ w _ g ((ev _ (by simp) _ _ _ _ _ _ _ _ _).trans hx1) (by rw [c3.fr_eval s3 p3 q3 _ (o := .tmp c1.b) (by simp only [ne_eq, Operand.tmp.injEq]; first | assumption | (exact Ne.symm (by assumption))) (by simp only [ne_eq, Operand.tmp.injEq]; first | assumption | (exact Ne.symm (by assumption))), c2.fr_eval s2 p2 q2 _ (o := .tmp c1.b) (by simp only [ne_eq, Operand.tmp.injEq]; first | assumption | (exact Ne.symm (by assumption))) (by simp only [ne_eq, Operand.tmp.injEq]; first | assumption | (exact Ne.symm (by assumption))), c1.fr_lit p1 q1 _ (by first | exact hz1 | (simp only [Chn.fr_size]; exact hz1))]; exact hg) H.hb H.a1.row hrow fun v w' hv1 hv2 hv => ?_
      have H' : St3 c1 c2 c3 base w0 w' 2 p1 v s2 p2 q2 s3 p3 q3 := ⟨⟨hv1, fun h => by cases h⟩, H.a2.append (H.j12) hv2, H.a3.append (H.j13) hv2, (Jt.append (H.j12) H.a2 hv), (Jt.append (H.j13) H.a3 hv), H.j23, H.kp.step hv2 (.inr (.inl rfl)), Nat.le_trans H.hb hv2.size⟩
      refine ⟨fun _ _ => hS _ H'.kp, ?_⟩
      have A := ih 2 s2 s3 (by omega) (by omega) (by omega) (by omega) (by omega) (by omega) p1 v p2 q2 p3 q3 _ H'
      rw [bit_set s3 _ (ib := b3) (ia := a3) (i := i) (by first | assumption | (exact Ne.symm (by assumption))) (by first | assumption | (exact Ne.symm (by assumption))), bit_set s2 _ (ib := b2) (ia := a2) (i := i) (by first | assumption | (exact Ne.symm (by assumption))) (by first | assumption | (exact Ne.symm (by assumption))), c3.fr_put s3 p3 q3 _ (i := c1.d) (by first | assumption | (exact Ne.symm (by assumption))) (by first | assumption | (exact Ne.symm (by assumption))), c2.fr_put s2 p2 q2 _ (i := c1.d) (by first | assumption | (exact Ne.symm (by assumption))) (by first | assumption | (exact Ne.symm (by assumption)))]
      exact A
    · have H' : St3 c1 c2 c3 base w0 (w.alloc (.cells c2.z.toArray c2.e)) s1 p1 q1 1 (.slice (some ⟨w.heap.size, 0, none⟩) 1 1) q2 s3 p3 q3 := ⟨H.a1.alloc _, H.a2.build, H.a3.alloc _, (Jt.build H.j12.symm H.a1).symm, H.j13, (Jt.build H.j23 H.a3), H.kp.step (World.grownBy_alloc w _ none) (.inl rfl), Nat.le_trans H.hb (World.grownBy_alloc w _ none).size⟩
      refine O2.build _ w _ ((ev _ (by simp) _ _ _ _ _ _ _ _ _).trans hu2) ⟨fun _ _ => hS _ H'.kp, ?_⟩
      have A := ih s1 1 s3 (by omega) (by omega) (by omega) (by omega) (by omega) (by omega) p1 q1 _ q2 p3 q3 _ H'
      rw [bit_set s3 _ (ib := b3) (ia := a3) (i := i) (by first | assumption | (exact Ne.symm (by assumption))) (by first | assumption | (exact Ne.symm (by assumption))), c3.fr_put s3 p3 q3 _ (i := c2.b) (by first | assumption | (exact Ne.symm (by assumption))) (by first | assumption | (exact Ne.symm (by assumption)))]
      exact A
    · obtain ⟨g, hg, hrow⟩ := H.a2.lit rfl
      refine O2.append _ w _ g ((ev _ (by simp) _ _ _ _ _ _ _ _ _).trans hx2) (by rw [c3.fr_eval s3 p3 q3 _ (o := .tmp c2.b) (by simp only [ne_eq, Operand.tmp.injEq]; first | assumption | (exact Ne.symm (by assumption))) (by simp only [ne_eq, Operand.tmp.injEq]; first | assumption | (exact Ne.symm (by assumption))), c2.fr_lit p2 q2 _ (by first | exact hz2 | (simp only [Chn.fr_size]; exact hz2))]; exact hg) H.hb H.a2.row hrow fun v w' hv1 hv2 hv => ?_
      have H' : St3 c1 c2 c3 base w0 w' s1 p1 q1 2 p2 v s3 p3 q3 := ⟨H.a1.append (H.j12.symm) hv2, ⟨hv1, fun h => by cases h⟩, H.a3.append (H.j23) hv2, (Jt.append (H.j12.symm) H.a1 hv).symm, H.j13, (Jt.append (H.j23) H.a3 hv), H.kp.step hv2 (.inr (.inr (.inl rfl))), Nat.le_trans H.hb hv2.size⟩
      refine ⟨fun _ _ => hS _ H'.kp, ?_⟩
      have A := ih s1 2 s3 (by omega) (by omega) (by omega) (by omega) (by omega) (by omega) p1 q1 p2 v p3 q3 _ H'
      rw [bit_set s3 _ (ib := b3) (ia := a3) (i := i) (by first | assumption | (exact Ne.symm (by assumption))) (by first | assumption | (exact Ne.symm (by assumption))), c3.fr_put s3 p3 q3 _ (i := c2.d) (by first | assumption | (exact Ne.symm (by assumption))) (by first | assumption | (exact Ne.symm (by assumption)))]
      exact A
    · have H' : St3 c1 c2 c3 base w0 (w.alloc (.cells c3.z.toArray c3.e)) s1 p1 q1 s2 p2 q2 1 (.slice (some ⟨w.heap.size, 0, none⟩) 1 1) q3 := ⟨H.a1.alloc _, H.a2.alloc _, H.a3.build, H.j12, (Jt.build H.j13.symm H.a1).symm, (Jt.build H.j23.symm H.a2).symm, H.kp.step (World.grownBy_alloc w _ none) (.inl rfl), Nat.le_trans H.hb (World.grownBy_alloc w _ none).size⟩
      refine O3.build _ w _ ((ev _ (by simp) _ _ _ _ _ _ _ _ _).trans hu3) ⟨fun _ _ => hS _ H'.kp, ?_⟩
      have A := ih s1 s2 1 (by omega) (by omega) (by omega) (by omega) (by omega) (by omega) p1 q1 p2 q2 _ q3 _ H'
      exact A
    · obtain ⟨g, hg, hrow⟩ := H.a3.lit rfl
      refine O3.append _ w _ g ((ev _ (by simp) _ _ _ _ _ _ _ _ _).trans hx3) (by rw [c3.fr_lit p3 q3 _ (by first | exact hz3 | (simp only [Chn.fr_size]; exact hz3))]; exact hg) H.hb H.a3.row hrow fun v w' hv1 hv2 hv => ?_
      have H' : St3 c1 c2 c3 base w0 w' s1 p1 q1 s2 p2 q2 2 p3 v := ⟨H.a1.append (H.j13.symm) hv2, H.a2.append (H.j23.symm) hv2, ⟨hv1, fun h => by cases h⟩, H.j12, (Jt.append (H.j13.symm) H.a1 hv).symm, (Jt.append (H.j23.symm) H.a2 hv).symm, H.kp.step hv2 (.inr (.inr (.inr rfl))), Nat.le_trans H.hb hv2.size⟩
      refine ⟨fun _ _ => hS _ H'.kp, ?_⟩
      have A := ih s1 s2 2 (by omega) (by omega) (by omega) (by omega) (by omega) (by omega) p1 q1 p2 q2 p3 v _ H'
      exact A
theorem chainsU3o_go {c1 c2 c3 : Chn} {base : Nat} {a0 : Act} {w0 : World} {L0 : Array Bool} {ou1 os1 ou2 os2 ou3 os3 : Operand} {U1 U2 U3 : Value} {b1 a1 b2 a2 b3 a3 nE : Nat}
    (O1 : Op2 P ops Q c1 base ou1 os1 U1 b1 a1) (O2 : Op2 P ops Q c2 base ou2 os2 U2 b2 a2) (O3 : Op2 P ops Q c3 base ou3 os3 U3 b3 a3)
    (hc : chk3o md ops L0 b1 a1 b2 a2 b3 a3 = true)
    (hi : [b1, a1, b2, a2, b3, a3].Nodup) (hs : [c1.b, c1.d, c2.b, c2.d, c3.b, c3.d].Nodup)
    (hoff : ∀ o, o ∈ [ou1, os1, ou2, os2, ou3, os3] → ∀ t, t ∈ [c1.b, c1.d, c2.b, c2.d, c3.b, c3.d] → o ≠ .tmp t)
    (hu1 : a0.eval ou1 = U1) (hu2 : a0.eval ou2 = U2) (hu3 : a0.eval ou3 = U3) (hx1 : a0.eval os1 = c1.x0) (hx2 : a0.eval os2 = c2.x0) (hx3 : a0.eval os3 = c3.x0)
    (hz1 : c1.b < a0.tmps.size) (hz2 : c2.b < a0.tmps.size) (hz3 : c3.b < a0.tmps.size)
    (r1 : Rw base c1.e c1.sz w0 c1.x0 c1.xs) (r2 : Rw base c2.e c2.sz w0 c2.x0 c2.xs) (r3 : Rw base c3.e c3.sz w0 c3.x0 c3.xs) (p12 : Ap c1.x0 c2.x0) (p13 : Ap c1.x0 c3.x0) (p23 : Ap c2.x0 c3.x0) (hb : base ≤ w0.heap.size)
    (hS : ∀ w, Kp3 c1.x0.ownBlock c2.x0.ownBlock c3.x0.ownBlock w0 w → S w)
    (hE : ∀ p1 q1 p2 q2 p3 q3 w, Rw base c1.e c1.sz w q1 (c1.xs ++ [c1.z]) → Rw base c2.e c2.sz w q2 (c2.xs ++ [c2.z]) → Rw base c3.e c3.sz w q3 (c3.xs ++ [c3.z]) → Ap q1 q2 → Ap q1 q3 → Ap q2 q3 → Kp3 c1.x0.ownBlock c2.x0.ownBlock c3.x0.ownBlock w0 w →
      anyU P md ops Q S m nE ((((((L0.setIfInBounds b1 true).setIfInBounds a1 true).setIfInBounds b2 true).setIfInBounds a2 true).setIfInBounds b3 true).setIfInBounds a3 true) ((((((a0.put (some c1.b) p1).put (some c1.d) q1).put (some c2.b) p2).put (some c2.d) q2).put (some c3.b) p3).put (some c3.d) q3) w) :
    anyU P md ops Q S m (nE + 6) L0 a0 w0 := by
  have st : St3 c1 c2 c3 base w0 w0 0 undef undef 0 undef undef 0 undef undef :=
    ⟨⟨r1, fun h => by cases h⟩, ⟨r2, fun h => by cases h⟩, ⟨r3, fun h => by cases h⟩, ⟨p12, (fun h => by cases h), fun h => by cases h⟩, ⟨p13, (fun h => by cases h), fun h => by cases h⟩, ⟨p23, (fun h => by cases h), fun h => by cases h⟩, Kp3.refl _ _ _ _, hb⟩
  have hE' : ∀ p1 q1 p2 q2 p3 q3 w, St3 c1 c2 c3 base w0 w 2 p1 q1 2 p2 q2 2 p3 q3 → anyU P md ops Q S m nE (bitC 2 b3 a3 (bitC 2 b2 a2 (bitC 2 b1 a1 L0))) (c3.fr 2 p3 q3 (c2.fr 2 p2 q2 (c1.fr 2 p1 q1 a0))) w := fun p1 q1 p2 q2 p3 q3 w H => by
    rw [bit_two, bit_two, bit_two, fr_two, fr_two, fr_two]
    exact hE p1 q1 p2 q2 p3 q3 w H.a1.row H.a2.row H.a3.row H.j12.ap H.j13.ap H.j23.ap H.kp
  have A := chainsU3o O1 O2 O3 hc hi hs hoff hu1 hu2 hu3 hx1 hx2 hx3 hz1 hz2 hz3 hS hE' 6 0 0 0 (by omega) (by omega) (by omega) (by omega) (by omega) rfl undef undef undef undef undef undef w0 st
  rw [bit_zero, bit_zero, bit_zero, fr_zero, fr_zero, fr_zero] at A
  exact A
end
end Go.Proofs.Ytfihcgimgngmhaa
/- What the document's own spans come to. No condition. -/
namespace Go.Proofs.Ytfihcgimgngmhaa
open Go.RowKit
theorem rempty_any (lo hi : ByteArray) (w : World) :
    Calls Try.prog 46 #[.agg #[.string lo, .string hi]] w fun e w' => e = .returned (.bool (remB lo hi)) ∧ Below w.heap.size w w' := by
  go_enter Try.func46, Try.ntmps46
  go_wp2
  all_goals go_ret
  all_goals exact ⟨ret_bool (by simp [remB, leB, nilB, ltB, eqB, *]), (Below.refl _ _).alloc (Nat.le_refl _) _⟩
set_option maxHeartbeats 1000000 in
theorem rmeets_any (la ha lb hb : ByteArray) (w : World) :
    Calls Try.prog 42 #[.agg #[.string la, .string ha], .agg #[.string lb, .string hb]] w fun e w' => e = .returned (.bool (rmeetB la ha lb hb)) ∧ Below w.heap.size w w' := by
  have hs := hide (St.start w la ha lb hb 72)
  go_enter Try.func42, Try.ntmps42
  go_wp2_with (first
    | (go_at_call 46; (with_reducible refine (hs.out.call (rempty_any _ _ _)).mono ?_); rintro e w' ⟨rfl, q0, q1, q2, q3, _, _, st⟩)
    | (go_at_call 46; (with_reducible refine (St.call (by with_reducible assumption) (rempty_any _ _ _)).mono ?_); rintro e w' ⟨rfl, q0, q1, q2, q3, _, _, st⟩))
  all_goals go_ret
  all_goals exact ⟨ret_bool (by simp [rmeetB, nilB, ltB, *]), st.old⟩
end Go.Proofs.Ytfihcgimgngmhaa
/- What the document's own Right, Keys, Writes, Clash come to. Conditions: the keys have room. -/
namespace Go.Proofs.Ytfihcgimgngmhaa
open Go.RowKit
/-- The document's own, in plain words. -/
def badC (x : Cm) : Bool := decide (x.k < 1) || (decide (5 < x.k) || (decide (x.c < 1) || (decide (8 < x.c) || (decide (x.q < 1) || (decide (1099511627776 < x.q) || (decide (16 < x.key.size) || (decide (16 < x.en.size) || (decide (64 < x.old.size) || decide (64 < x.val.size)))))))))
def bareC (x : Cm) : Cm :=
  if x.k = 2 then ⟨x.k, x.c, x.q, x.key, noT, noT, x.val⟩
  else if x.k = 4 then ⟨x.k, x.c, x.q, x.key, noT, x.old, x.val⟩
  else if x.k = 5 then ⟨x.k, x.c, x.q, x.key, x.en, noT, noT⟩
  else ⟨x.k, x.c, x.q, x.key, noT, noT, noT⟩
def rrightC (x : Cm) : Bool := sameC x c_zeroC || (!badC x && (sameC x (bareC x) && (decide (x.k = 5) || !nilB x.key)))
theorem rwrites_any (k c q : Int) (a b o v : ByteArray) (w : World) :
    Calls Try.prog 41 #[.agg #[.int .i64 k, .int .i64 c, .int .i64 q, .string a, .string b, .string o, .string v]] w fun e w' => e = .returned (.bool (writesC k)) ∧ Below w.heap.size w w' := by
  have e : writesC k = (k == 2 || k == 3 || k == 4) := by
    rw [Bool.eq_iff_iff]; simp [writesC]; omega
  rw [e]
  clear e
  go_enter Try.func41, Try.ntmps41
  go_wp2
  all_goals go_ret
  all_goals exact ⟨ret_bool (by first | rfl | simp_all), (Below.refl _ _).alloc (Nat.le_refl _) _⟩
set_option maxRecDepth 100000 in
set_option maxHeartbeats 2000000 in
theorem rkeys_any (k c q : Int) (a b o v : ByteArray) (w : World) (ha : a.size ≤ 140737488355328) :
    Calls Try.prog 40 #[.agg #[.int .i64 k, .int .i64 c, .int .i64 q, .string a, .string b, .string o, .string v]] w fun e w' => e = .returned (keysV ⟨k, c, q, a, b, o, v⟩) ∧ Below w.heap.size w w' := by
  have hl : ¬ (a.size + 1 > 9223372036854775807) := by omega
  have hn : a ++ ⟨#[0]⟩ = nextT a := rfl
  clear ha
  rcases kinds51 k with h4 | rfl | ⟨k1, k2, k3, k4, k5⟩
  · rcases h4 with rfl | rfl | rfl | rfl
    all_goals
      go_enter Try.func40, Try.ntmps40
      go_wp2
      refine bodyPost_ret (v := keysV ⟨_, c, q, a, b, o, v⟩) (by simp [results, Try.results40, go_sem, keysV, loC, hiC, hasC]) rfl ⟨rfl, ?_⟩
      repeat' first | exact Below.refl _ _ | refine Below.drew ?_ | refine bit_alloc ?_ (Nat.le_refl _) _
  · go_enter Try.func40, Try.ntmps40
    go_wp2
    refine bodyPost_ret (v := keysV ⟨5, c, q, a, b, o, v⟩) (by simp [results, Try.results40, go_sem, keysV, loC, hiC, hasC]) rfl ⟨rfl, ?_⟩
    repeat' first | exact Below.refl _ _ | refine Below.drew ?_ | refine bit_alloc ?_ (Nat.le_refl _) _
  · have e : keysV ⟨k, c, q, a, b, o, v⟩ = .tuple #[.agg #[.string noT, .string noT], .bool false] := by rw [keys_no (hasC_no k1 k2 k3 k4 k5)]
    rw [e]
    clear e
    go_enter Try.func40, Try.ntmps40
    go_wp2
    refine bodyPost_ret (v := .tuple #[.agg #[.string noT, .string noT], .bool false]) (by simp [results, Try.results40, go_sem, noT]) rfl ⟨rfl, ?_⟩
    repeat' first | exact Below.refl _ _ | refine Below.drew ?_ | refine bit_alloc ?_ (Nat.le_refl _) _
end Go.Proofs.Ytfihcgimgngmhaa
/- What the document's own Clash and Right come to. Conditions: the keys have room. -/
namespace Go.Proofs.Ytfihcgimgngmhaa
open Go.RowKit
def rclashC (x y : Cm) : Bool := (hasC x.k && hasC y.k) && (x.c == y.c || ((writesC x.k || writesC y.k) && rmeetB (loC x) (hiC x) (loC y) (hiC y)))
set_option maxRecDepth 100000 in
set_option maxHeartbeats 8000000 in
theorem rclash_any (k c q : Int) (a b o v : ByteArray) (k' c' q' : Int) (a' b' o' v' : ByteArray) (w : World) (ha : a.size ≤ 140737488355328) (ha' : a'.size ≤ 140737488355328) :
    Calls Try.prog 33 #[.agg #[.int .i64 k, .int .i64 c, .int .i64 q, .string a, .string b, .string o, .string v], .agg #[.int .i64 k', .int .i64 c', .int .i64 q', .string a', .string b', .string o', .string v']] w
      fun e w' => e = .returned (.bool (rclashC ⟨k, c, q, a, b, o, v⟩ ⟨k', c', q', a', b', o', v'⟩)) ∧ Below w.heap.size w w' := by
  have hk1 := fun w1 => rkeys_any k c q a b o v w1 ha
  have hk2 := fun w1 => rkeys_any k' c' q' a' b' o' v' w1 ha'
  have hw1 := fun w1 => rwrites_any k c q a b o v w1
  have hw2 := fun w1 => rwrites_any k' c' q' a' b' o' v' w1
  unfold rclashC
  unfold keysV at hk1 hk2
  have st : Both w ((w.alloc (.cells #[.int .i64 k, .int .i64 c, .int .i64 q, .string a, .string b, .string o, .string v] 29)).alloc (.cells #[.int .i64 k', .int .i64 c', .int .i64 q', .string a', .string b', .string o', .string v'] 29)) ⟨k, c, q, a, b, o, v⟩ ⟨k', c', q', a', b', o', v'⟩ :=
    Both.start w ⟨k, c, q, a, b, o, v⟩ ⟨k', c', q', a', b', o', v'⟩ 29
  simp only at hk1 hk2 ⊢
  generalize loC ⟨k, c, q, a, b, o, v⟩ = l1 at *
  generalize hiC ⟨k, c, q, a, b, o, v⟩ = h1 at *
  generalize loC ⟨k', c', q', a', b', o', v'⟩ = l2 at *
  generalize hiC ⟨k', c', q', a', b', o', v'⟩ = h2 at *
  generalize hasC k = p at *
  generalize hasC k' = p' at *
  generalize writesC k = r at *
  generalize writesC k' = r' at *
  have K1 := hide hk1
  have K2 := hide hk2
  have W1 := hide hw1
  have W2 := hide hw2
  have ST := hide st
  clear hk1 hk2 hw1 hw2 ha ha' st
  go_enter Try.func33, Try.ntmps33
  go_upto_region 2 with (go_at_call 40; (with_reducible refine (K1.out _).mono ?_); rintro e w1 ⟨rfl, hb1⟩; have st1 := hide (ST.out.step hb1); clear hb1)
  have st2 := hide (show Both1 w _ _ _ w1.heap.size l1 h1 from ⟨st1.out.step ((Below.refl _ _).alloc (Nat.le_refl _) (.cells #[.string l1, .string h1] 72)), Two.new w1 l1 h1 72⟩)
  generalize w1.heap.size = g1 at *
  generalize w1.alloc (.cells #[.string l1, .string h1] 72) = w2 at *
  obtain ⟨b0, b1, b2, b3, b4, b5, b6⟩ := st2.out.s.b.cells
  go_upto_region 3 with (go_at_call 40; (with_reducible refine (K2.out _).mono ?_); rintro e w3 ⟨rfl, hb3⟩; have st3 := hide (st2.out.step hb3); clear hb3)
  have st4 := hide (show Both2 w _ _ _ g1 l1 h1 w3.heap.size l2 h2 from ⟨st3.out.step ((Below.refl _ _).alloc (Nat.le_refl _) (.cells #[.string l2, .string h2] 72)), Two.new w3 l2 h2 72⟩)
  generalize w3.heap.size = g2 at *
  generalize w3.alloc (.cells #[.string l2, .string h2] 72) = w4 at *
  obtain ⟨A0, A1, A2, A3, A4, A5, A6⟩ := st4.out.s.s.a.cells
  obtain ⟨B0, B1, B2, B3, B4, B5, B6⟩ := st4.out.s.s.b.cells
  have C0 := st4.out.s.t.c0
  have C1 := st4.out.s.t.c1
  have C2 := st4.out.t.c0
  have C3 := st4.out.t.c1
  simp only at A0 A1 A2 A3 A4 A5 A6 B0 B1 B2 B3 B4 B5 B6
  clear b0 b1 b2 b3 b4 b5 b6
  have old4 := st4.out.s.s.old
  have st := st4.out
  clear st1 st2 st3 st4 ST
  go_wp2_with (first
    | (go_at_call 41; (with_reducible refine (Both2.call (by with_reducible assumption) (W1.out _)).mono ?_); rintro e w5 ⟨rfl, ⟨A0, A1, A2, A3, A4, A5, A6⟩, ⟨B0, B1, B2, B3, B4, B5, B6⟩, ⟨C0, C1, C2, C3⟩, st⟩; simp only at A0 A1 A2 A3 A4 A5 A6 B0 B1 B2 B3 B4 B5 B6; have old4 := st.s.s.old)
    | (go_at_call 41; (with_reducible refine (Both2.call (by with_reducible assumption) (W2.out _)).mono ?_); rintro e w5 ⟨rfl, ⟨A0, A1, A2, A3, A4, A5, A6⟩, ⟨B0, B1, B2, B3, B4, B5, B6⟩, ⟨C0, C1, C2, C3⟩, st⟩; simp only at A0 A1 A2 A3 A4 A5 A6 B0 B1 B2 B3 B4 B5 B6; have old4 := st.s.s.old)
    | (go_at_call 42; (with_reducible refine (Both2.call (by with_reducible assumption) (rmeets_any l1 h1 l2 h2 _)).mono ?_); rintro e w5 ⟨rfl, ⟨A0, A1, A2, A3, A4, A5, A6⟩, ⟨B0, B1, B2, B3, B4, B5, B6⟩, ⟨C0, C1, C2, C3⟩, st⟩; have old4 := st.s.s.old))
  all_goals go_ret
  all_goals exact ⟨ret_bool (by simp [*] <;> simp_all), by with_reducible assumption⟩
set_option maxRecDepth 100000 in
set_option maxHeartbeats 8000000 in
theorem c_rright_any (k c q : Int) (a b o v : ByteArray) (w : World) :
    Calls Try.prog 32 #[.agg #[.int .i64 k, .int .i64 c, .int .i64 q, .string a, .string b, .string o, .string v]] w fun e w' => e = .returned (.bool (rrightC ⟨k, c, q, a, b, o, v⟩)) ∧ Below w.heap.size w w' := by
  have heq := fun k' c' q' a' b' o' v' => eql_cmd k c q a b o v k' c' q' a' b' o' v'
  cases hz : sameC ⟨k, c, q, a, b, o, v⟩ ⟨0, 0, 0, ⟨#[]⟩, ⟨#[]⟩, ⟨#[]⟩, ⟨#[]⟩⟩
  · go_enter Try.func32, Try.ntmps32
    go_wp2
    all_goals first
      | (go_ret; clear heq; exact ⟨ret_bool (by simp [rrightC, badC, bareC, c_zeroC, noT, nilB, *] <;> simp_all <;> omega), by repeat' first | exact Below.refl _ _ | refine Below.drew ?_ | refine bit_alloc ?_ (Nat.le_refl _) _⟩)
      | (go_region; go_wp2; all_goals go_ret; clear heq; all_goals exact ⟨ret_bool (by simp [rrightC, badC, bareC, c_zeroC, noT, nilB, *] <;> simp_all <;> omega), by repeat' first | exact Below.refl _ _ | refine Below.drew ?_ | refine bit_alloc ?_ (Nat.le_refl _) _⟩)
  · go_enter Try.func32, Try.ntmps32
    go_wp2
    go_ret
    exact ⟨ret_bool (by simp [rrightC, c_zeroC, noT, hz]), (Below.refl _ _).alloc (Nat.le_refl _) _⟩
end Go.Proofs.Ytfihcgimgngmhaa
/- What package interf's calls come to, in plain words: what is known, what a new command hangs on; its order is open. No condition: nothing here speaks of a program. -/
namespace Go.Proofs.Ytfihcgimgngmhaa
/-- What stands at an instance. -/
structure En where
  r : Int
  s : Int
  c : Cm
  q : Int
/-- What an index holds: the known instances, the cut. -/
structure Ix where
  k : List En
  d : List Int
def En.at_ (e : En) (r s : Int) : Bool := e.r == r && e.s == s
def En.key (e : En) : Int × Int := (e.r, e.s)
/-- May the command be noted? -/
def mayN (d : List Int) (r s : Int) (c : Cm) (q : Int) : Bool := rightI r s && (decide (ix d r.toNat < s) && (rightC c && (decide (0 ≤ q) && decide (q ≤ 1099511627776))))
def putK (k : List En) (r s : Int) (c : Cm) (q : Int) : List En := if k.any (fun e => e.at_ r s) = true then k.map (fun e => if e.at_ r s = true then ⟨r, s, c, q⟩ else e) else k ++ [⟨r, s, c, q⟩]
def noteX (x : Ix) (r s : Int) (c : Cm) (q : Int) : Ix := if mayN x.d r s c q = true then ⟨putK x.k r s c q, x.d⟩ else x
/-- Does the new one hang on it? -/
def hits (r s : Int) (c : Cm) (e : En) : Bool := !e.at_ r s && (!(e.r == r && decide (s < e.s)) && clashC e.c c)
def hang (r s : Int) (c : Cm) (a : Int × List Int) (e : En) : Int × List Int := if hits r s c e = true then (max a.1 (e.q + 1), a.2.set e.r.toNat (max (ix a.2 e.r.toNat) e.s)) else a
def hangs (k : List En) (r s : Int) (c : Cm) : Int × List Int := k.foldl (hang r s c) (0, [0, 0, 0, 0, 0, 0, 0])
/-- One's own row, the cut. -/
def ownI (r s : Int) (k : Nat) (n : Int) : Int := if (k : Int) = r then (if rightI r s = true then max n (s - 1) else n) else n
def cutI (d : List Int) (r : Int) (k : Nat) (n : Int) : Int := if (k : Int) = r then n else max n (ix d k)
def finI (d : List Int) (r s : Int) (a : List Int) : List Int := (List.range 7).map fun k => cutI d r k (ownI r s k (ix a k))
def attrX (x : Ix) (r s : Int) (c : Cm) : Int × List Int := ((hangs x.k r s c).1, finI x.d r s (hangs x.k r s c).2)
def upD (d u : List Int) : List Int := (List.range 7).map fun k => max (ix d k) (min (max (ix u k) 0) 1073741824)
def overB (d : List Int) (e : En) : Bool := decide (ix d e.r.toNat < e.s)
def pruneX (x : Ix) (u : List Int) : Ix := ⟨x.k.filter (overB (upD x.d u)), upD x.d u⟩
def zeroX : Ix := ⟨[], [0, 0, 0, 0, 0, 0, 0]⟩
/-- What is known stands at instances of its own, each right and above the cut. -/
structure Kn (x : Ix) : Prop where
  d7 : x.d.length = 7
  low : ∀ k, k < 7 → 0 ≤ ix x.d k ∧ ix x.d k ≤ 1073741824
  nd : (x.k.map En.key).Nodup
  ok : ∀ e, e ∈ x.k → mayN x.d e.r e.s e.c e.q = true
theorem at_iff {e : En} {r s : Int} : e.at_ r s = true ↔ e.key = (r, s) := by
  unfold En.at_ En.key
  rw [Bool.and_eq_true, beq_iff_eq, beq_iff_eq, Prod.mk.injEq]
theorem may_iff {d : List Int} {r s : Int} {c : Cm} {q : Int} : mayN d r s c q = true ↔ rightI r s = true ∧ ix d r.toNat < s ∧ rightC c = true ∧ 0 ≤ q ∧ q ≤ 1099511627776 := by
  unfold mayN
  simp only [Bool.and_eq_true, decide_eq_true_eq]
theorem rightI_is {r s : Int} (h : rightI r s = true) : 0 ≤ r ∧ r < 7 ∧ 1 ≤ s ∧ s ≤ 1073741824 := by
  unfold rightI repB at h
  simp only [Bool.and_eq_true, decide_eq_true_eq] at h
  omega
theorem rightI_mk {r s : Int} (h0 : 0 ≤ r) (h7 : r < 7) (h1 : 1 ≤ s) (h2 : s ≤ 1073741824) : rightI r s = true := by
  unfold rightI repB
  simp only [Bool.and_eq_true, decide_eq_true_eq]
  omega
theorem Kn.zero : Kn zeroX := ⟨rfl, fun k hk => by
  have : k = 0 ∨ k = 1 ∨ k = 2 ∨ k = 3 ∨ k = 4 ∨ k = 5 ∨ k = 6 := by omega
  rcases this with rfl | rfl | rfl | rfl | rfl | rfl | rfl <;> exact ⟨by decide, by decide⟩, List.nodup_nil, fun e he => by cases he⟩
theorem any_iff {k : List En} {r s : Int} : k.any (fun e => e.at_ r s) = true ↔ (r, s) ∈ k.map En.key := by
  rw [List.any_eq_true, List.mem_map]
  exact ⟨fun ⟨e, he, h⟩ => ⟨e, he, at_iff.1 h⟩, fun ⟨e, he, h⟩ => ⟨e, he, at_iff.2 h⟩⟩
theorem map_key (k : List En) (r s : Int) (c : Cm) (q : Int) : (k.map (fun e => if e.at_ r s = true then (⟨r, s, c, q⟩ : En) else e)).map En.key = k.map En.key := by
  rw [List.map_map]
  refine List.map_congr_left fun e _ => ?_
  show En.key (if e.at_ r s = true then ⟨r, s, c, q⟩ else e) = e.key
  split
  · rename_i h
    exact (at_iff.1 h).symm
  · rfl
theorem mem_putK {k : List En} {r s : Int} {c : Cm} {q : Int} {e : En} : e ∈ putK k r s c q ↔ e = ⟨r, s, c, q⟩ ∨ (e ∈ k ∧ e.at_ r s = false) := by
  unfold putK
  split
  · rename_i h
    rw [List.mem_map]
    constructor
    · rintro ⟨f, hf, rfl⟩
      split
      · exact .inl rfl
      · rename_i h2
        exact .inr ⟨hf, by simpa using h2⟩
    · rintro (rfl | ⟨h1, h2⟩)
      · obtain ⟨f, hf, h3⟩ := List.any_eq_true.1 h
        exact ⟨f, hf, by rw [if_pos h3]⟩
      · exact ⟨e, h1, by rw [if_neg (by rw [h2]; simp)]⟩
  · rename_i h
    rw [List.mem_append, List.mem_singleton]
    constructor
    · rintro (h1 | rfl)
      · refine .inr ⟨h1, ?_⟩
        cases h2 : e.at_ r s
        · rfl
        · exact absurd (List.any_eq_true.2 ⟨e, h1, h2⟩) h
      · exact .inl rfl
    · rintro (rfl | ⟨h1, _⟩)
      · exact .inr rfl
      · exact .inl h1
theorem putK_keys (k : List En) (r s : Int) (c : Cm) (q : Int) : (putK k r s c q).map En.key = if (r, s) ∈ k.map En.key then k.map En.key else k.map En.key ++ [(r, s)] := by
  unfold putK
  by_cases h : (r, s) ∈ k.map En.key
  · rw [if_pos (any_iff.2 h), if_pos h, map_key]
  · rw [if_neg (fun h2 => h (any_iff.1 h2)), if_neg h, List.map_append]
    rfl
theorem putK_len (k : List En) (r s : Int) (c : Cm) (q : Int) : (putK k r s c q).length = if (r, s) ∈ k.map En.key then k.length else k.length + 1 := by
  have h := congrArg List.length (putK_keys k r s c q)
  rw [List.length_map] at h
  rw [h]
  split <;> simp
theorem Kn.note {x : Ix} (h : Kn x) (r s : Int) (c : Cm) (q : Int) : Kn (noteX x r s c q) := by
  unfold noteX
  split
  · rename_i hm
    refine ⟨h.d7, h.low, ?_, fun e he => ?_⟩
    · show ((putK x.k r s c q).map En.key).Nodup
      rw [putK_keys]
      split
      · exact h.nd
      · rename_i hn
        rw [List.nodup_append]
        refine ⟨h.nd, by simp, fun a ha b hb => ?_⟩
        obtain rfl := List.mem_singleton.1 hb
        exact fun e => hn (e ▸ ha)
    · rcases mem_putK.1 he with rfl | ⟨h1, _⟩
      · exact hm
      · exact h.ok e h1
  · exact h
theorem ix_map7 (f : Nat → Int) {k : Nat} (hk : k < 7) : ix ((List.range 7).map f) k = f k := by
  rw [ix_lt _ (by simpa using hk)]
  simp
theorem len_map7 (f : Nat → Int) : ((List.range 7).map f).length = 7 := by simp
theorem Kn.prune {x : Ix} (h : Kn x) (u : List Int) : Kn (pruneX x u) := by
  refine ⟨len_map7 _, fun k hk => ?_, ?_, fun e he => ?_⟩
  · show 0 ≤ ix (upD x.d u) k ∧ ix (upD x.d u) k ≤ 1073741824
    unfold upD
    rw [ix_map7 _ hk]
    have := h.low k hk
    omega
  · exact h.nd.sublist (List.Sublist.map _ List.filter_sublist)
  · have h1 := List.mem_filter.1 he
    obtain ⟨a, b, c, d, f⟩ := may_iff.1 (h.ok e h1.1)
    exact may_iff.2 ⟨a, by have := h1.2; unfold overB at this; exact of_decide_eq_true this, c, d, f⟩
/-! ### The order is open -/
theorem ix_set_ne (a : List Int) (v : Int) {i j : Nat} (h : ¬ i = j) : ix (a.set i v) j = ix a j := by
  unfold ix
  rw [List.getD_eq_getElem?_getD, List.getD_eq_getElem?_getD, List.getElem?_set_ne h]
theorem set_max_comm (a : List Int) {i j : Nat} (m n : Int) : (a.set i (max (ix a i) m)).set j (max (ix (a.set i (max (ix a i) m)) j) n) = (a.set j (max (ix a j) n)).set i (max (ix (a.set j (max (ix a j) n)) i) m) := by
  by_cases hij : i = j
  · subst hij
    by_cases hl : i < a.length
    · have e : ∀ v, ix (a.set i v) i = v := fun v => by rw [ix_lt _ (by simpa using hl)]; simp
      rw [e, e, List.set_set, List.set_set]
      congr 1
      omega
    · have e : ∀ v, a.set i v = a := fun v => List.set_eq_of_length_le (by omega)
      simp only [e]
  · have e : ∀ v, ix (a.set i v) j = ix a j := fun v => ix_set_ne _ _ hij
    have e' : ∀ v, ix (a.set j v) i = ix a i := fun v => ix_set_ne _ _ (Ne.symm hij)
    rw [e, e', List.set_comm _ _ hij]
theorem hang_comm (r s : Int) (c : Cm) (a : Int × List Int) (e f : En) : hang r s c (hang r s c a e) f = hang r s c (hang r s c a f) e := by
  unfold hang
  by_cases h1 : hits r s c e = true <;> by_cases h2 : hits r s c f = true
  · simp only [if_pos h1, if_pos h2]
    rw [set_max_comm]
    congr 1
    omega
  · simp only [if_pos h1, if_neg h2]
  · simp only [if_neg h1, if_pos h2]
  · simp only [if_neg h1, if_neg h2]
theorem hangs_perm {k l : List En} (h : k.Perm l) (r s : Int) (c : Cm) : hangs k r s c = hangs l r s c := by
  unfold hangs
  exact h.foldl_eq' (fun x _ y _ z => hang_comm r s c z x y) _
theorem hangs_snoc (k : List En) (e : En) (r s : Int) (c : Cm) : hangs (k ++ [e]) r s c = hang r s c (hangs k r s c) e := by unfold hangs; rw [List.foldl_append]; rfl
/-! ### What the sum says -/
theorem hang_len (r s : Int) (c : Cm) (a : Int × List Int) (e : En) : (hang r s c a e).2.length = a.2.length := by
  unfold hang
  split
  · exact List.length_set
  · rfl
theorem hangs_len (k : List En) (r s : Int) (c : Cm) : (hangs k r s c).2.length = 7 := by
  suffices ∀ (k : List En) (a : Int × List Int), (k.foldl (hang r s c) a).2.length = a.2.length from this k _
  intro k
  induction k with
  | nil => exact fun a => rfl
  | cons e k ih => exact fun a => (ih _).trans (hang_len r s c a e)
/-- Behind the sum: nothing has sunk. -/
theorem hang_up (r s : Int) (c : Cm) (a : Int × List Int) (e : En) : a.1 ≤ (hang r s c a e).1 ∧ ∀ k, ix a.2 k ≤ ix (hang r s c a e).2 k := by
  unfold hang
  split
  · refine ⟨by simp only; omega, fun k => ?_⟩
    by_cases hk : e.r.toNat = k
    · subst hk
      by_cases hl : e.r.toNat < a.2.length
      · have : ix (a.2.set e.r.toNat (max (ix a.2 e.r.toNat) e.s)) e.r.toNat = max (ix a.2 e.r.toNat) e.s := by rw [ix_lt _ (by simpa using hl)]; simp
        simp only
        rw [this]
        omega
      · simp only
        rw [List.set_eq_of_length_le (by omega)]
        exact Int.le_refl _
    · have : ix (a.2.set e.r.toNat (max (ix a.2 e.r.toNat) e.s)) k = ix a.2 k := ix_set_ne _ _ hk
      simp only
      rw [this]
      exact Int.le_refl _
  · exact ⟨Int.le_refl _, fun k => Int.le_refl _⟩
theorem fold_up (r s : Int) (c : Cm) : ∀ (k : List En) (a : Int × List Int), a.1 ≤ (k.foldl (hang r s c) a).1 ∧ ∀ j, ix a.2 j ≤ ix (k.foldl (hang r s c) a).2 j
  | [], a => ⟨Int.le_refl _, fun j => Int.le_refl _⟩
  | e :: k, a => by
    have h1 := hang_up r s c a e
    have h2 := fold_up r s c k (hang r s c a e)
    exact ⟨Int.le_trans h1.1 h2.1, fun j => Int.le_trans (h1.2 j) (h2.2 j)⟩
/-- Each one that is hung on is reached, and stands below. -/
theorem fold_hit (r s : Int) (c : Cm) : ∀ (k : List En) (a : Int × List Int), a.2.length = 7 → ∀ e, e ∈ k → hits r s c e = true → rightI e.r e.s = true → e.q + 1 ≤ (k.foldl (hang r s c) a).1 ∧ e.s ≤ ix (k.foldl (hang r s c) a).2 e.r.toNat
  | [], _, _, e, he, _, _ => by cases he
  | f :: k, a, ha, e, he, hh, hr => by
    have hl : (hang r s c a f).2.length = 7 := (hang_len r s c a f).trans ha
    rcases List.mem_cons.1 he with rfl | he
    · have h2 := fold_up r s c k (hang r s c a e)
      have e1 : hang r s c a e = (max a.1 (e.q + 1), a.2.set e.r.toNat (max (ix a.2 e.r.toNat) e.s)) := by unfold hang; rw [if_pos hh]
      obtain ⟨r0, r7, _, _⟩ := rightI_is hr
      have e2 : ix (hang r s c a e).2 e.r.toNat = max (ix a.2 e.r.toNat) e.s := by
        rw [e1]
        rw [ix_lt _ (by simp only [List.length_set]; omega)]
        simp
      have e3 : (hang r s c a e).1 = max a.1 (e.q + 1) := by rw [e1]
      have := h2.2 e.r.toNat
      exact ⟨Int.le_trans (by omega) h2.1, Int.le_trans (by omega) this⟩
    · exact fold_hit r s c k _ hl e he hh hr
theorem hangs_hit {k : List En} {r s : Int} {c : Cm} {e : En} (he : e ∈ k) (hh : hits r s c e = true) (hr : rightI e.r e.s = true) : e.q + 1 ≤ (hangs k r s c).1 ∧ e.s ≤ ix (hangs k r s c).2 e.r.toNat := fold_hit r s c k _ rfl e he hh hr
/-- Nothing else is. -/
theorem fold_le (r s : Int) (c : Cm) (B : Int) (D : Nat → Int) : ∀ (k : List En) (a : Int × List Int), a.1 ≤ B → (∀ j, ix a.2 j ≤ D j) → (∀ e, e ∈ k → hits r s c e = true → e.q + 1 ≤ B ∧ e.s ≤ D e.r.toNat) → (k.foldl (hang r s c) a).1 ≤ B ∧ ∀ j, ix (k.foldl (hang r s c) a).2 j ≤ D j
  | [], a, h1, h2, _ => ⟨h1, h2⟩
  | e :: k, a, h1, h2, h3 => by
    refine fold_le r s c B D k _ ?_ (fun j => ?_) (fun f hf => h3 f (List.mem_cons_of_mem _ hf))
    · unfold hang
      split
      · rename_i hh
        have := (h3 e (List.mem_cons_self ..) hh).1
        simp only
        omega
      · exact h1
    · unfold hang
      split
      · rename_i hh
        have h4 := (h3 e (List.mem_cons_self ..) hh).2
        have h5 := h2 e.r.toNat
        by_cases hj : e.r.toNat = j
        · subst hj
          by_cases hl : e.r.toNat < a.2.length
          · simp only
            rw [ix_lt _ (by simpa using hl)]
            simp only [List.getElem_set_self]
            omega
          · simp only
            rw [List.set_eq_of_length_le (by omega)]
            exact h5
        · have : ix (a.2.set e.r.toNat (max (ix a.2 e.r.toNat) e.s)) j = ix a.2 j := ix_set_ne _ _ hj
          simp only
          rw [this]
          exact h2 j
      · exact h2 j
theorem hangs_le {k : List En} {r s : Int} {c : Cm} (B : Int) (D : Nat → Int) (hB : 0 ≤ B) (hD : ∀ j, 0 ≤ D j) (h : ∀ e, e ∈ k → hits r s c e = true → e.q + 1 ≤ B ∧ e.s ≤ D e.r.toNat) : (hangs k r s c).1 ≤ B ∧ ∀ j, ix (hangs k r s c).2 j ≤ D j :=
  fold_le r s c B D k _ hB (fun j => by
    have : ix [0, 0, 0, 0, 0, 0, 0] j = 0 := by
      unfold ix
      match j with
      | 0 | 1 | 2 | 3 | 4 | 5 | 6 => rfl
      | n + 7 => rfl
    rw [this]
    exact hD j) h
theorem hangs_low (k : List En) (r s : Int) (c : Cm) : 0 ≤ (hangs k r s c).1 ∧ ∀ j, 0 ≤ ix (hangs k r s c).2 j := by
  have h := fold_up r s c k (0, [0, 0, 0, 0, 0, 0, 0])
  refine ⟨h.1, fun j => Int.le_trans ?_ (h.2 j)⟩
  unfold ix
  match j with
  | 0 | 1 | 2 | 3 | 4 | 5 | 6 => exact Int.le_refl _
  | n + 7 => exact Int.le_refl _
theorem attr_ix (x : Ix) (r s : Int) (c : Cm) {k : Nat} (hk : k < 7) : ix (attrX x r s c).2 k = cutI x.d r k (ownI r s k (ix (hangs x.k r s c).2 k)) := by
  show ix ((List.range 7).map fun k => cutI x.d r k (ownI r s k (ix (hangs x.k r s c).2 k))) k = _
  exact ix_map7 (fun k => cutI x.d r k (ownI r s k (ix (hangs x.k r s c).2 k))) hk
theorem attr_len (x : Ix) (r s : Int) (c : Cm) : (attrX x r s c).2.length = 7 := len_map7 _
end Go.Proofs.Ytfihcgimgngmhaa
/- What is said of spans, as plain facts. No condition: nothing here speaks of a program. -/
namespace Go.Proofs.Ytfihcgimgngmhaa
open Go.RowKit
theorem next_nil (y : ByteArray) : nilB (nextT y) = false := by
  unfold nilB nextT; rw [next_list]; cases y.toList <;> rfl
theorem s_le_not (a b : ByteArray) : (ltB a b || eqB a b) = !ltB b a := by
  rw [Bool.eq_iff_iff]
  simp [rk_iff (L := [a, b]), rk_inj (L := [a, b])]
  omega
theorem lt_next (x k : ByteArray) : ltB x (nextT k) = !ltB k x := by unfold ltB nextT; rw [next_list, less_next]
theorem in_next (x k : ByteArray) : inB x (nextT k) = !ltB k x := by unfold inB; rw [next_nil, lt_next, Bool.false_or]
theorem end_next (k h : ByteArray) : endB (nextT k) h = inB k h := by
  unfold endB inB; rw [next_nil, s_le_not, lt_next, Bool.not_not, Bool.not_false, Bool.true_and]
theorem point_em (k : ByteArray) : emB k (nextT k) = false := by unfold emB; rw [in_next, lt_self]; rfl
theorem of_has (k : ByteArray) : hasB k (nextT k) k = true := by unfold hasB; rw [in_next, lt_self]; rfl
theorem of_cov (lo hi k : ByteArray) : covB lo hi k (nextT k) = hasB lo hi k := by unfold covB hasB; rw [point_em, end_next, Bool.false_or]
theorem of_meet (lo hi k : ByteArray) : meetB lo hi k (nextT k) = hasB lo hi k := by
  unfold meetB
  rw [point_em, in_next, Bool.eq_iff_iff]
  simp [hasB, emB, inB, rk_none (L := [nilT, lo, hi, k]), rk_iff (L := [nilT, lo, hi, k])]
  omega
theorem point_meet (a b : ByteArray) : meetB a (nextT a) b (nextT b) = eqB a b := by
  unfold meetB
  rw [point_em, point_em, in_next, in_next, Bool.eq_iff_iff]
  simp [rk_iff (L := [a, b]), rk_inj (L := [a, b])]
  omega
theorem has_ref (lo hi k : ByteArray) : hasB lo hi k = rhasB lo hi k := rfl
theorem em_ref (lo hi : ByteArray) : emB lo hi = remB lo hi := by
  rw [Bool.eq_iff_iff]
  simp [emB, inB, remB, leB, rk_none (L := [nilT, lo, hi]), rk_iff (L := [nilT, lo, hi]), rk_inj (L := [nilT, lo, hi])]
  omega
theorem meet_ref (la ha lb hb : ByteArray) : meetB la ha lb hb = rmeetB la ha lb hb := by
  rw [Bool.eq_iff_iff]
  simp [meetB, emB, inB, rmeetB, remB, leB, rk_none (L := [nilT, la, ha, lb, hb]), rk_iff (L := [nilT, la, ha, lb, hb]), rk_inj (L := [nilT, la, ha, lb, hb])]
  omega
theorem cov_ref (la ha lb hb : ByteArray) : covB la ha lb hb = rcovB la ha lb hb := by
  rw [Bool.eq_iff_iff]
  simp [covB, endB, emB, inB, rcovB, remB, leB, rk_none (L := [nilT, la, ha, lb, hb]), rk_iff (L := [nilT, la, ha, lb, hb]), rk_inj (L := [nilT, la, ha, lb, hb])]
  omega
theorem max_swap (a b : ByteArray) : maxT a b = maxT b a := by
  unfold maxT
  cases h : ltB a b <;> cases h' : ltB b a
  · rw [lt_or h h']
  · rfl
  · rfl
  · have := lt_trans h h'; rw [lt_self] at this; cases this
theorem end_or {a b : ByteArray} (h : endB a b = endB b a) : a = b := by
  rw [← eq_iff]
  unfold endB at h
  revert h
  rw [Bool.eq_iff_iff]
  simp [rk_none (L := [nilT, a, b]), rk_iff (L := [nilT, a, b]), rk_inj (L := [nilT, a, b])]
  omega
theorem min_swap (a b : ByteArray) : minT a b = minT b a := by
  unfold minT
  cases h : endB a b <;> cases h' : endB b a
  · rw [end_or (h.trans h'.symm)]
  · rfl
  · rfl
  · rw [end_or (h.trans h'.symm)]
theorem end_no (a b : ByteArray) : (nilB a || (!nilB b && ltB b a)) = (!endB a b || eqB a b && nilB a) := by
  rw [Bool.eq_iff_iff]
  simp [endB, rk_none (L := [nilT, a, b]), rk_iff (L := [nilT, a, b]), rk_inj (L := [nilT, a, b])]
  omega
theorem min_pick (a b : ByteArray) : (if (nilB a || (!nilB b && ltB b a)) = true then b else a) = minT a b := by
  rw [end_no]
  unfold minT
  cases h : endB a b
  · rfl
  · by_cases h' : eqB a b = true
    · rw [(eq_iff a b).1 h']; split <;> rfl
    · rw [Bool.not_eq_true] at h'; rw [h']; rfl
theorem both_has (la ha lb hb k : ByteArray) : hasB (maxT la lb) (minT ha hb) k = (hasB la ha k && hasB lb hb k) := by
  unfold maxT minT
  cases h1 : ltB la lb <;> cases h2 : endB ha hb
  all_goals
    rw [Bool.eq_iff_iff]
    simp [endB, hasB, inB, rk_none (L := [nilT, la, ha, lb, hb, k]), rk_iff (L := [nilT, la, ha, lb, hb, k]), rk_inj (L := [nilT, la, ha, lb, hb, k])] at h1 h2 ⊢
    omega
theorem meet_both (la ha lb hb : ByteArray) : meetB la ha lb hb = (!emB la ha && (!emB lb hb && !emB (maxT la lb) (minT ha hb))) := by
  unfold maxT minT
  cases h1 : ltB la lb <;> cases h2 : endB ha hb
  all_goals
    rw [Bool.eq_iff_iff]
    simp [endB, meetB, emB, inB, rk_none (L := [nilT, la, ha, lb, hb]), rk_iff (L := [nilT, la, ha, lb, hb]), rk_inj (L := [nilT, la, ha, lb, hb])] at h1 h2 ⊢
    omega
theorem has_meet (la ha lb hb k : ByteArray) : (hasB la ha k && hasB lb hb k && !meetB la ha lb hb) = false := by
  rw [Bool.eq_iff_iff]
  simp [hasB, meetB, emB, inB, rk_none (L := [nilT, la, ha, lb, hb, k]), rk_iff (L := [nilT, la, ha, lb, hb, k])]
  omega
theorem cov_has (la ha lb hb k : ByteArray) : (covB la ha lb hb && hasB lb hb k && !hasB la ha k) = false := by
  rw [Bool.eq_iff_iff]
  simp [hasB, covB, endB, emB, inB, rk_none (L := [nilT, la, ha, lb, hb, k]), rk_iff (L := [nilT, la, ha, lb, hb, k]), rk_inj (L := [nilT, la, ha, lb, hb, k])]
  omega
theorem em_has (lo hi k : ByteArray) : (emB lo hi && hasB lo hi k) = false := by
  rw [Bool.eq_iff_iff]
  simp [hasB, emB, inB, rk_none (L := [nilT, lo, hi, k]), rk_iff (L := [nilT, lo, hi, k])]
  omega
theorem meet_swap (la ha lb hb : ByteArray) : meetB la ha lb hb = meetB lb hb la ha := by
  unfold meetB
  cases emB la ha <;> cases emB lb hb <;> cases inB la hb <;> cases inB lb ha <;> rfl
theorem meet_self (lo hi : ByteArray) : meetB lo hi lo hi = !emB lo hi := by
  unfold meetB emB
  cases inB lo hi <;> rfl
theorem cov_self (lo hi : ByteArray) : covB lo hi lo hi = true := by
  rw [Bool.eq_iff_iff]
  simp [covB, endB, emB, inB, rk_none (L := [nilT, lo, hi]), rk_iff (L := [nilT, lo, hi]), rk_inj (L := [nilT, lo, hi])]
theorem cov_on (la ha lb hb lc hc : ByteArray) : (!covB la ha lb hb || (!covB lb hb lc hc || (covB la ha lc hc || emB lb hb))) = true := by
  rw [Bool.eq_iff_iff]
  simp [covB, endB, emB, inB, rk_none (L := [nilT, la, ha, lb, hb, lc, hc]), rk_iff (L := [nilT, la, ha, lb, hb, lc, hc]), rk_inj (L := [nilT, la, ha, lb, hb, lc, hc])]
  omega
end Go.Proofs.Ytfihcgimgngmhaa
/- The document's own come to the same as the program's, in plain words. No condition: nothing here speaks of a program. -/
namespace Go.Proofs.Ytfihcgimgngmhaa
set_option maxRecDepth 100000
open Go.RowKit
theorem bare_named {x : Cm} (h1 : 1 ≤ x.k) (h5 : x.k ≤ 5) : bareC x = namedC x := by
  unfold bareC namedC
  by_cases a : x.k = 2
  · rw [if_pos a, if_neg (by omega), if_pos a]
  · by_cases b : x.k = 4
    · rw [if_neg a, if_pos b, if_neg (by omega), if_neg a, if_pos b]
    · by_cases c : x.k = 5
      · rw [if_neg a, if_neg b, if_pos c, if_neg (by omega), if_neg a, if_neg b, if_pos c]
      · rw [if_neg a, if_neg b, if_neg c, if_pos (by omega)]
theorem bound_bad {x : Cm} (h1 : 1 ≤ x.k) (h5 : x.k ≤ 5) : boundC x = (!badC x && (decide (x.k = 5) || !nilB x.key)) := by
  unfold boundC badC
  cases hn : nilB x.key
  all_goals
    rw [Bool.eq_iff_iff]
    simp only [Bool.and_eq_true, Bool.or_eq_true, Bool.not_eq_true', Bool.and_eq_false_iff, Bool.or_eq_false_iff, decide_eq_true_eq, decide_eq_false_iff_not]
    simp
    omega
theorem right_kind {x : Cm} (h : rightC x = true) (h0 : x.k ≠ 0) : x = namedC x ∧ boundC x = true ∧ 1 ≤ x.k ∧ x.k ≤ 5 := by
  unfold rightC at h
  rw [if_neg h0, Bool.and_eq_true, sameC_iff] at h
  refine ⟨h.1, h.2, ?_⟩
  by_cases h5 : 1 ≤ x.k ∧ x.k ≤ 5
  · exact h5
  · have e : namedC x = c_zeroC := by
      unfold namedC
      rw [if_neg (by omega), if_neg (by omega), if_neg (by omega), if_neg (by omega)]
    rw [e] at h
    exact absurd (congrArg Cm.k h.1) h0
theorem rright_is (x : Cm) : rrightC x = rightC x := by
  by_cases h0 : x.k = 0
  · unfold rrightC rightC
    have hb : badC x = true := by unfold badC; rw [decide_eq_true (show x.k < 1 by omega)]; rfl
    rw [if_pos h0, hb]
    simp
  · have hz : sameC x c_zeroC = false := by
      cases hs : sameC x c_zeroC
      · rfl
      · rw [sameC_iff] at hs; rw [hs] at h0; exact absurd rfl h0
    by_cases h : 1 ≤ x.k ∧ x.k ≤ 5
    · unfold rrightC rightC
      rw [if_neg h0, hz, bare_named h.1 h.2, bound_bad h.1 h.2]
      cases badC x <;> cases sameC x (namedC x) <;> simp
    · have hb : badC x = true := by
        unfold badC
        by_cases h1 : x.k < 1
        · rw [decide_eq_true h1]; rfl
        · rw [decide_eq_true (show 5 < x.k by omega), Bool.true_or, Bool.or_true]
      have hr : rightC x = false := by
        cases hr : rightC x
        · rfl
        · exact absurd (right_kind hr h0).2.2 h
      unfold rrightC
      rw [hz, hb, hr]
      rfl
theorem right_zeroC : rightC c_zeroC = true := by
  unfold rightC
  rw [if_pos (show c_zeroC.k = 0 from rfl), sameC_iff]
/-- The document's own Right. -/
theorem rright_to (k c q : Int) (a b o v : ByteArray) (w : World) :
    Calls Try.prog 32 #[.agg #[.int .i64 k, .int .i64 c, .int .i64 q, .string a, .string b, .string o, .string v]] w fun e w' => e = .returned (.bool (rightC ⟨k, c, q, a, b, o, v⟩)) ∧ Below w.heap.size w w' := by
  rw [← rright_is]; exact c_rright_any k c q a b o v w
theorem rclash_is (x y : Cm) : rclashC x y = clashC x y := by
  unfold rclashC clashC; rw [meet_ref]
/-- The document's own Right. -/
theorem rclash_to (k c q : Int) (a b o v : ByteArray) (k' c' q' : Int) (a' b' o' v' : ByteArray) (w : World) (ha : a.size ≤ 140737488355328) (ha' : a'.size ≤ 140737488355328) :
    Calls Try.prog 33 #[.agg #[.int .i64 k, .int .i64 c, .int .i64 q, .string a, .string b, .string o, .string v], .agg #[.int .i64 k', .int .i64 c', .int .i64 q', .string a', .string b', .string o', .string v']] w
      fun e w' => e = .returned (.bool (clashC ⟨k, c, q, a, b, o, v⟩ ⟨k', c', q', a', b', o', v'⟩)) ∧ Below w.heap.size w w' := by
  rw [← rclash_is]; exact rclash_any k c q a b o v k' c' q' a' b' o' v' w ha ha'
end Go.Proofs.Ytfihcgimgngmhaa
/- The document's own Index in memory; what its calls keep. No condition: no walk. -/
namespace Go.Proofs.Ytfihcgimgngmhaa
set_option maxRecDepth 100000
open Go.RowKit
/-- All but some blocks are kept. -/
structure Kq (o : Nat → Prop) (w w' : World) : Prop where
  os : w'.os = w.os
  tape : w'.tape = w.tape
  output : w'.output = w.output
  size : w.heap.size ≤ w'.heap.size
  block : ∀ k, k < w.heap.size → ¬ o k → w'.heap[k]? = w.heap[k]?
section
variable {o o' : Nat → Prop} {w w' w'' : World}
theorem Kq.refl (o : Nat → Prop) (w : World) : Kq o w w := ⟨rfl, rfl, rfl, Nat.le_refl _, fun _ _ _ => rfl⟩
theorem Kq.of_below (h : Below w.heap.size w w') : Kq o w w' := ⟨h.os, h.tape, h.output, h.size, fun k hk _ => h.block k hk⟩
theorem Kq.trans (h : Kq o w w') (k : Kq o' w' w'') (ho : ∀ b, b < w.heap.size → o' b → o b) : Kq o w w'' :=
  ⟨k.os.trans h.os, k.tape.trans h.tape, k.output.trans h.output, Nat.le_trans h.size k.size, fun b hb hn => (k.block b (Nat.lt_of_lt_of_le hb h.size) (fun e => hn (ho b hb e))).trans (h.block b hb hn)⟩
theorem Kq.mono (h : Kq o w w') (ho : ∀ b, o b → o' b) : Kq o' w w' := ⟨h.os, h.tape, h.output, h.size, fun b hb hn => h.block b hb (fun e => hn (ho b e))⟩
theorem Kq.grown {r : Option Nat} (h : w.grownBy w' r) (ho : ∀ b, r = some b → o b) : Kq o w w' := ⟨h.os, h.tape, h.output, h.size, fun k hk hn => h.block k hk (fun e => hn (ho k e.symm))⟩
theorem Kq.row {g : Nat} {t : TypeId} {cs : Array Value} (h : Kq o w w') (hr : Row w g t cs) (hn : ¬ o g) : Row w' g t cs := (h.block g hr.lt hn).trans hr
theorem Kq.below {n : Nat} {W : World} (h : Kq o w w') (hb : Below n W w) (hs : n ≤ w.heap.size) (hn : ∀ k, k < n → ¬ o k) : Below n W w' :=
  ⟨h.os.trans hb.os, h.tape.trans hb.tape, h.output.trans hb.output, Nat.le_trans hb.size h.size, fun k hk => (h.block k (Nat.lt_of_lt_of_le hk hs) (hn k hk)).trans (hb.block k hk)⟩
theorem Kq.own {base n sz : Nat} {e : TypeId} {v : Value} {xs : List Value} (h : Kq o w w') (hr : w.ownsRow base e sz v n xs) (hn : ∀ k, v.ownBlock = some k → ¬ o k) : w'.ownsRow base e sz v n xs := by
  refine ⟨hr.1, hr.2.imp_right ?_⟩
  rintro ⟨g, cap, cur, rfl, h1, h2, h3⟩
  have hlt : g < w.heap.size := (Array.getElem?_eq_some_iff.1 h2).1
  exact ⟨g, cap, cur, rfl, h1, (h.block g hlt (hn g rfl)).trans h2, h3⟩
theorem Kp3.kq {r1 r2 r3 : Option Nat} (h : Kp3 r1 r2 r3 w w') : Kq (fun k => r1 = some k ∨ r2 = some k ∨ r3 = some k) w w' :=
  ⟨h.os, h.tape, h.output, h.size, fun k hk hn => h.block k hk (fun e => hn (.inl e.symm)) (fun e => hn (.inr (.inl e.symm))) (fun e => hn (.inr (.inr e.symm)))⟩
end
/-! ### The rows -/
def isV (k : List En) : List (List Value) := k.map fun e => [.int .i64 e.r, .int .i64 e.s]
def csV (k : List En) : List (List Value) := k.map fun e => e.c.l
def qsV (k : List En) : List (List Value) := k.map fun e => [.int .i64 e.q]
theorem isV_len (k : List En) : (isV k).length = k.length := List.length_map _
theorem csV_len (k : List En) : (csV k).length = k.length := List.length_map _
theorem qsV_len (k : List En) : (qsV k).length = k.length := List.length_map _
theorem isV_all (k : List En) : AllV 2 (isV k) := fun x hx => by
  obtain ⟨e, _, rfl⟩ := List.mem_map.1 hx
  exact ⟨rfl, fun u hu => by simp at hu; rcases hu with rfl | rfl <;> rfl⟩
theorem csV_all (k : List En) : AllV 7 (csV k) := fun x hx => by
  obtain ⟨e, _, rfl⟩ := List.mem_map.1 hx
  exact ⟨rfl, fun u hu => by
    unfold Cm.l at hu
    simp at hu
    rcases hu with rfl | rfl | rfl | rfl | rfl | rfl | rfl <;> rfl⟩
theorem qsV_all (k : List En) : AllV 1 (qsV k) := fun x hx => by
  obtain ⟨e, _, rfl⟩ := List.mem_map.1 hx
  exact ⟨rfl, fun u hu => by simp at hu; subst hu; rfl⟩
theorem isV_app (k l : List En) : isV (k ++ l) = isV k ++ isV l := List.map_append
theorem csV_app (k l : List En) : csV (k ++ l) = csV k ++ csV l := List.map_append
theorem qsV_app (k l : List En) : qsV (k ++ l) = qsV k ++ qsV l := List.map_append
/-- An Index's ten cells. -/
def ixC (vL vC vS : Value) (d : List Int) : Array Value := (vL :: vC :: vS :: d.map (Value.int .i64)).toArray
theorem ixC_cut (vL vC vS : Value) (d : List Int) {k : Nat} (hk : k < d.length) : (ixC vL vC vS d)[3 + k]? = some (.int .i64 (ix d k)) := by
  unfold ixC
  rw [List.getElem?_toArray, show 3 + k = k + 1 + 1 + 1 by omega, List.getElem?_cons_succ, List.getElem?_cons_succ, List.getElem?_cons_succ, List.getElem?_map, List.getElem?_eq_getElem hk, ix_lt _ hk]
  rfl
theorem ixC_put0 (vL vC vS u : Value) (d : List Int) : (ixC vL vC vS d).setIfInBounds 0 u = ixC u vC vS d := by unfold ixC; rw [List.setIfInBounds_toArray]; rfl
theorem ixC_put1 (vL vC vS u : Value) (d : List Int) : (ixC vL vC vS d).setIfInBounds 1 u = ixC vL u vS d := by unfold ixC; rw [List.setIfInBounds_toArray]; rfl
theorem ixC_put2 (vL vC vS u : Value) (d : List Int) : (ixC vL vC vS d).setIfInBounds 2 u = ixC vL vC u d := by unfold ixC; rw [List.setIfInBounds_toArray]; rfl
/-- The Index at block g. -/
structure Rx (base : Nat) (w : World) (g : Nat) (vL vC vS : Value) (x : Ix) : Prop where
  row : Row w g 46 (ixC vL vC vS x.d)
  rl : Rw base 26 2 w vL (isV x.k)
  rc : Rw base 29 7 w vC (csV x.k)
  rs : Rw base 3 1 w vS (qsV x.k)
  d7 : x.d.length = 7
def rxO (g : Nat) (vL vC vS : Value) (k : Nat) : Prop := k = g ∨ vL.ownBlock = some k ∨ vC.ownBlock = some k ∨ vS.ownBlock = some k
theorem rw_off {base sz g : Nat} {e t : TypeId} {w : World} {v : Value} {xs : List (List Value)} {cs : Array Value} (h : Rw base e sz w v xs) (hr : Row w g t cs) (hne : t ≠ e) : some g ≠ v.ownBlock := by
  intro hg
  unfold Rw at h
  rcases h.2 with ⟨rfl, _⟩ | ⟨a, cap, cur, rfl, _, hh, _⟩
  · simp [Value.ownBlock] at hg
  · simp [Value.ownBlock] at hg
    subst hg
    unfold Row at hr
    rw [hh] at hr
    injection hr with hr
    injection hr with _ h2 _
    exact hne h2.symm
theorem rw_ap {base b2 s1 s2 : Nat} {e f : TypeId} {w : World} {v u : Value} {xs ys : List (List Value)} (h : Rw base e s1 w v xs) (k : Rw b2 f s2 w u ys) (hne : e ≠ f) : Ap v u := fun g h1 h2 => by
  unfold Rw at h k
  rcases h.2 with ⟨rfl, _⟩ | ⟨a, cap, cur, rfl, _, hh, _⟩
  · cases h1
  · rcases k.2 with ⟨rfl, _⟩ | ⟨b, cap', cur', rfl, _, kk, _⟩
    · cases h2
    · simp [Value.ownBlock] at h1 h2
      subst h1
      subst h2
      rw [hh] at kk
      injection kk with kk
      injection kk with _ h2 _
      exact hne h2
section
variable {base g : Nat} {w w' : World} {vL vC vS : Value} {x : Ix}
theorem Rx.keep {o : Nat → Prop} (h : Rx base w g vL vC vS x) (hk : Kq o w w') (ho : ∀ k, rxO g vL vC vS k → ¬ o k) : Rx base w' g vL vC vS x :=
  ⟨hk.row h.row (ho g (.inl rfl)), hk.own h.rl (fun k e => ho k (.inr (.inl e))), hk.own h.rc (fun k e => ho k (.inr (.inr (.inl e)))), hk.own h.rs (fun k e => ho k (.inr (.inr (.inr e)))), h.d7⟩
theorem Rx.below (h : Rx base w g vL vC vS x) (hb : Below w.heap.size w w') : Rx base w' g vL vC vS x := h.keep (o := fun _ => False) (.of_below hb) (fun _ _ e => e)
theorem Rx.form (h : Rx base w g vL vC vS x) : ∃ A a B b C c, vL = .slice A x.k.length a ∧ vC = .slice B x.k.length b ∧ vS = .slice C x.k.length c ∧ x.k.length ≤ a ∧ x.k.length ≤ b ∧ x.k.length ≤ c := by
  obtain ⟨A, a, e1, _, h1, _, _⟩ := own_form h.rl
  obtain ⟨B, b, e2, _, h2, _, _⟩ := own_form h.rc
  obtain ⟨C, c, e3, _, h3, _, _⟩ := own_form h.rs
  rw [isV_len] at e1 h1
  rw [csV_len] at e2 h2
  rw [qsV_len] at e3 h3
  exact ⟨A, a, B, b, C, c, e1, e2, e3, h1, h2, h3⟩
/-- What stands at place j. -/
theorem Rx.at_ {A B C : Option Addr} {n a b c : Nat} (h : Rx base w g (.slice A n a) (.slice B n b) (.slice C n c) x) {j : Nat} {e : En} (he : x.k[j]? = some e) : ∃ gL gC gS, A = some ⟨gL, 0, none⟩ ∧ B = some ⟨gC, 0, none⟩ ∧ C = some ⟨gS, 0, none⟩ ∧
    (w.cell? ⟨gL, j * 2, none⟩ = some (.int .i64 e.r) ∧ w.cell? ⟨gL, j * 2 + 1, none⟩ = some (.int .i64 e.s)) ∧ CmAt w gC 0 j e.c ∧ w.cell? ⟨gS, j, none⟩ = some (.int .i64 e.q) := by
  have hj : j < x.k.length := by
    rcases Nat.lt_or_ge j x.k.length with h1 | h1
    · exact h1
    · rw [List.getElem?_eq_none h1] at he; cases he
  have own : ∀ {sz : Nat} {ty : TypeId} {V : Option Addr} {m : Nat} {xs : List (List Value)}, Rw base ty sz w (.slice V n m) xs → xs.length = x.k.length → AllV sz xs → 0 < sz → ∃ gg, V = some ⟨gg, 0, none⟩ ∧ ∀ y, xs[j]? = some y → ∀ i, i < sz → w.cell? ⟨gg, j * sz + i, none⟩ = y[i]? := fun {sz ty V m xs} hw hl ha hs => by
    unfold Rw at hw
    have hn : n = xs.length := by
      rcases hw.2 with ⟨e1, h0⟩ | ⟨_, _, _, e1, _⟩
      · injection e1 with _ e2 _
        omega
      · injection e1
    subst hn
    obtain ⟨gg, cc, e1⟩ : ∃ gg cc, Value.slice V xs.length m = .slice (some ⟨gg, 0, none⟩) xs.length cc := by
      rcases hw.2 with ⟨_, h0⟩ | ⟨gg, cc, _, e1, _⟩
      · omega
      · exact ⟨gg, cc, e1⟩
    injection e1 with e1 _ _
    subst e1
    refine ⟨gg, rfl, fun y hy i hi => ?_⟩
    obtain ⟨b', off, e2, _, hc⟩ := Els.at_ (els_own hw ha hs).1 hy
    injection e2 with e2
    injection e2 with e2 e3 _
    subst e2
    subst e3
    have := hc i hi
    rwa [Nat.zero_add] at this
  obtain ⟨gL, rfl, hL⟩ := own h.rl (isV_len _) (isV_all _) (by omega)
  obtain ⟨gC, rfl, hC⟩ := own h.rc (csV_len _) (csV_all _) (by omega)
  obtain ⟨gS, rfl, hS⟩ := own h.rs (qsV_len _) (qsV_all _) (by omega)
  have l := hL [.int .i64 e.r, .int .i64 e.s] (by unfold isV; rw [List.getElem?_map, he]; rfl)
  have c := hC e.c.l (by unfold csV; rw [List.getElem?_map, he]; rfl)
  have s := hS [.int .i64 e.q] (by unfold qsV; rw [List.getElem?_map, he]; rfl)
  refine ⟨gL, gC, gS, rfl, rfl, rfl, ⟨l 0 (by omega), l 1 (by omega)⟩, ?_, by have := s 0 (by omega); rwa [Nat.mul_one] at this⟩
  have z : ∀ i, 0 + j * 7 + i = j * 7 + i := fun i => by omega
  exact ⟨by rw [Nat.zero_add]; exact c 0 (by omega), by rw [z]; exact c 1 (by omega), by rw [z]; exact c 2 (by omega), by rw [z]; exact c 3 (by omega), by rw [z]; exact c 4 (by omega), by rw [z]; exact c 5 (by omega), by rw [z]; exact c 6 (by omega)⟩
end
end Go.Proofs.Ytfihcgimgngmhaa
/- '==' of two instances; a row of two cells. No condition. -/
namespace Go.Proofs.Ytfihcgimgngmhaa
open Go.ChangeShapes Go.WideShapes Go.ChangeAt Go.RowKit Go.Joins
theorem Row.two {w : World} {g : Nat} {t : TypeId} {x y : Value} (h : Row w g t #[x, y]) : w.cell? ⟨g, 0, none⟩ = some x ∧ w.cell? ⟨g, 1, none⟩ = some y :=
  ⟨by rw [h.cell]; rfl, by rw [h.cell]; rfl⟩
theorem eql_inst (a b c d : Int) (w : World) : (binOp .eql 26 (.agg #[.int .i64 a, .int .i64 b]) (.agg #[.int .i64 c, .int .i64 d])).run Try.prog w = .ok (.bool (a == c && b == d)) w := by
  have u3 := Try.underlying3
  have a3 := Try.isAgg3
  have z3 := Try.sizeOf3
  have hS : Try.prog.underlying 26 = some (.struct (Try.prog.fieldsOf 26)) := by kernel_rfl
  have hp : Try.prog.stoodInHeld 26 = false := by kernel_rfl
  rw [run_eql_struct, show (10000 : Nat) = 9999 + 1 from rfl, run_equalIn_agg w 9999 26 _ _ hS hp]
  simp only [Program.fieldsOf, Try.underlying26]
  go_simp
  cases h1 : (a == c) <;> simp_all
  cases h2 : (b == d) <;> simp_all
end Go.Proofs.Ytfihcgimgngmhaa
/- Maps keyed by an instance, elements of whatever kind: what they hold, as a list of entries; what each operation comes to; ranging over them in whatever order. No condition: nothing here speaks of one function. -/
namespace Go.Proofs.Ytfihcgimgngmhaa
open Go.RowKit Go.Maps
/-- An element reads as itself. -/
def asIs (v : Value) : Option (DataW Value × List MemPlace) := some (.held v, [])
abbrev Ents : Type := List ((Int × Int) × Value)
/-- What is read says just what the list says. -/
structure Tells (D : DataW Value) (l : Ents) : Prop where
  size : size D = l.length
  has : ∀ e, e ∈ l → has D (kl e.1) = true ∧ ∀ z, D.atKey (kl e.1) z = .held e.2
  only : ∀ x, Ok x → Maps.has D (kl x) = true → ∃ v, (x, v) ∈ l
/-- The map in block b holds just these entries, no key twice. -/
structure Mp (w : World) (b : Nat) (l : Ents) : Prop where
  map : ∃ D : DataW Value, w.ownsMap Try.prog 26 asIs b (Maps.size D) D ∧ Tells D l
  ok : ∀ e, e ∈ l → Ok e.1
  nd : (l.map Prod.fst).Nodup
def getM (l : Ents) (x : Int × Int) : Option Value := (l.find? fun e => decide (e.1 = x)).map Prod.snd
def putM (l : Ents) (x : Int × Int) (v : Value) : Ents := if x ∈ l.map Prod.fst then l.map (fun e => if e.1 = x then (x, v) else e) else l ++ [(x, v)]
def delM (l : Ents) (x : Int × Int) : Ents := l.filter fun e => decide (e.1 ≠ x)
theorem one_key {l : Ents} (h : (l.map Prod.fst).Nodup) {x : Int × Int} {v u : Value} (h1 : (x, v) ∈ l) (h2 : (x, u) ∈ l) : v = u := by
  induction l with
  | nil => cases h1
  | cons e l ih =>
    rw [List.map_cons, List.nodup_cons] at h
    rcases List.mem_cons.1 h1 with e1 | h1
    · rcases List.mem_cons.1 h2 with e2 | h2
      · have := e1.trans e2.symm
        exact (Prod.mk.injEq ..).mp this |>.2
      · exact absurd (List.mem_map.2 ⟨_, h2, by rw [← e1]⟩) h.1
    · rcases List.mem_cons.1 h2 with e2 | h2
      · exact absurd (List.mem_map.2 ⟨_, h1, by rw [← e2]⟩) h.1
      · exact ih h.2 h1 h2
theorem getM_some {l : Ents} (h : (l.map Prod.fst).Nodup) {x : Int × Int} {v : Value} (h1 : (x, v) ∈ l) : getM l x = some v := by
  unfold getM
  cases hf : l.find? fun e => decide (e.1 = x) with
  | none =>
    have := List.find?_eq_none.1 hf _ h1
    simp at this
  | some e =>
    have he := List.mem_of_find?_eq_some hf
    have hx := List.find?_some hf
    obtain ⟨k, u⟩ := e
    have hx : k = x := by simpa using hx
    subst hx
    rw [one_key h he h1]
    rfl
theorem getM_none {l : Ents} {x : Int × Int} (h : x ∉ l.map Prod.fst) : getM l x = none := by
  unfold getM
  rw [List.find?_eq_none.2 (fun e he => by
    simp only [decide_eq_true_eq]
    exact fun e1 => h (List.mem_map.2 ⟨e, he, e1⟩))]
  rfl
section
variable {w w' : World} {b r : Nat} {l : Ents} {left : Lit → Bool}
theorem Mp.lt (h : Mp w b l) : b < w.heap.size := by
  obtain ⟨D, hD, _⟩ := h.map
  exact hD.lt
theorem Mp.grown {row : Option Nat} (h : Mp w b l) (hg : w.grownBy w' row) (h1 : some b ≠ row) : Mp w' b l := by
  obtain ⟨D, hD, hm⟩ := h.map
  exact ⟨⟨D, hD.kept hg h1, hm⟩, h.ok, h.nd⟩
theorem Mp.below (h : Mp w b l) (hb : Below w.heap.size w w') : Mp w' b l := h.grown (grown_below hb) (by simp)
theorem Mp.alloc (h : Mp w b l) (o : Obj) : Mp (w.alloc o) b l := h.grown (World.grownBy_alloc w o none) (by simp)
theorem Mp.drew (h : Mp w b l) : Mp w.drew b l := ⟨h.map, h.ok, h.nd⟩
theorem Mp.drewN (h : Mp w b l) (n : Nat) : Mp (w.drewN n) b l := ⟨h.map, h.ok, h.nd⟩
theorem Mp.setCell (h : Mp w b l) {a : Addr} (ha : b ≠ a.block) (u : Value) : Mp (w.setCell a u) b l := by
  obtain ⟨D, hD, hm⟩ := h.map
  exact ⟨⟨D, hD.setCell ha u, hm⟩, h.ok, h.nd⟩
theorem tight {n : Nat} {D : DataW Value} (h : w.ownsMap Try.prog 26 asIs b n D) : w.ownsMap Try.prog 26 asIs b (Maps.size D) D := by
  obtain ⟨es, c, hb, F, hs, rfl⟩ := h
  exact ⟨es, c, hb, F, by simp [Maps.size, length_sorted], rfl⟩
/-- A map that was just made. -/
theorem Mp.made (w : World) : Mp (w.alloc (.map #[] 0)) w.heap.size [] :=
  ⟨⟨.map [], World.ownsMap_made w _ _ _, rfl, (fun e he => by cases he), fun x _ hx => by cases hx⟩, (fun e he => by cases he), List.nodup_nil⟩
theorem Tells.at_ {D : DataW Value} (h : Tells D l) (hn : (l.map Prod.fst).Nodup) {x : Int × Int} (hx : Ok x) (z : Value) : D.atKey (kl x) (.held z) = .held ((getM l x).getD z) ∧ Maps.has D (kl x) = (getM l x).isSome := by
  cases hh : Maps.has D (kl x)
  · have hnm : x ∉ l.map Prod.fst := fun hm => by
      obtain ⟨e, he, rfl⟩ := List.mem_map.1 hm
      rw [(h.has e he).1] at hh
      cases hh
    rw [getM_none hnm]
    exact ⟨atKey_of_not_has hh _, rfl⟩
  · obtain ⟨v, hv⟩ := h.only x hx hh
    rw [getM_some hn hv]
    exact ⟨(h.has _ hv).2 _, rfl⟩
/-- 'v, ok := m[k]'. -/
theorem Mp.look {T e : TypeId} (h : Mp w b l) (ht : Try.prog.underlying T = some (.map 26 e)) {z : Value} (hz : (zeroValue e).run Try.prog w = .ok z w) (x : Int × Int) (hx : Ok x) :
    (Instr.lookup T (.map (some b)) (.agg #[.int .i64 x.1, .int .i64 x.2]) true).run Try.prog w = .ok (.tuple #[(getM l x).getD z, .bool (getM l x).isSome]) w := by
  obtain ⟨D, hD, hT⟩ := h.map
  obtain ⟨v, ps, hr, hv⟩ := hD.look_ok law ht hz (zd := .held z) (zp := []) rfl (key_of x hx)
  have h2 := hT.at_ h.nd hx z
  rw [h2.1] at hv
  have hv : (some (DataW.held v, ([] : List MemPlace))) = some (.held ((getM l x).getD z), ps) := hv
  injection hv with hv
  injection hv with hv _
  injection hv with hv
  subst hv
  rw [← h2.2]
  exact hr
/-- 'v := m[k]'. -/
theorem Mp.look1 {T e : TypeId} (h : Mp w b l) (ht : Try.prog.underlying T = some (.map 26 e)) {z : Value} (hz : (zeroValue e).run Try.prog w = .ok z w) (x : Int × Int) (hx : Ok x) :
    (Instr.lookup T (.map (some b)) (.agg #[.int .i64 x.1, .int .i64 x.2]) false).run Try.prog w = .ok ((getM l x).getD z) w := by
  obtain ⟨D, hD, hT⟩ := h.map
  obtain ⟨v, ps, hr, hv⟩ := hD.lookup law ht hz (zd := .held z) (zp := []) rfl (key_of x hx)
  have h2 := hT.at_ h.nd hx z
  rw [h2.1] at hv
  have hv : (some (DataW.held v, ([] : List MemPlace))) = some (.held ((getM l x).getD z), ps) := hv
  injection hv with hv
  injection hv with hv _
  injection hv with hv
  subst hv
  exact hr
/-- 'len(m)'. -/
theorem Mp.len {T e : TypeId} (h : Mp w b l) (ht : Try.prog.underlying T = some (.map 26 e)) (ty : TypeId) : (Builtin.len_ #[T] ty #[.map (some b)]).run Try.prog w = .ok (.int .i64 l.length) w := by
  obtain ⟨D, hD, hT⟩ := h.map
  have := hD.len ht ty
  rw [hT.size] at this
  exact this
theorem mem_putM {x : Int × Int} {v : Value} {e : (Int × Int) × Value} : e ∈ putM l x v ↔ e = (x, v) ∨ (e ∈ l ∧ e.1 ≠ x) := by
  unfold putM
  split
  · rename_i h
    rw [List.mem_map]
    constructor
    · rintro ⟨f, hf, rfl⟩
      split
      · exact .inl rfl
      · rename_i h2
        exact .inr ⟨hf, h2⟩
    · rintro (rfl | ⟨h1, h2⟩)
      · obtain ⟨f, hf, h3⟩ := List.mem_map.1 h
        exact ⟨f, hf, by rw [if_pos h3]⟩
      · exact ⟨e, h1, by rw [if_neg h2]⟩
  · rename_i h
    rw [List.mem_append, List.mem_singleton]
    constructor
    · rintro (h1 | rfl)
      · exact .inr ⟨h1, fun e1 => h (List.mem_map.2 ⟨e, h1, e1⟩)⟩
      · exact .inl rfl
    · rintro (rfl | ⟨h1, _⟩)
      · exact .inr rfl
      · exact .inl h1
theorem putM_keys (l : Ents) (x : Int × Int) (v : Value) : (putM l x v).map Prod.fst = if x ∈ l.map Prod.fst then l.map Prod.fst else l.map Prod.fst ++ [x] := by
  unfold putM
  split
  · rw [List.map_map]
    refine List.map_congr_left fun e _ => ?_
    show (if e.1 = x then (x, v) else e).1 = e.1
    split
    · rename_i h; exact h.symm
    · rfl
  · rw [List.map_append]; rfl
theorem putM_len (l : Ents) (x : Int × Int) (v : Value) : (putM l x v).length = if x ∈ l.map Prod.fst then l.length else l.length + 1 := by
  have h := congrArg List.length (putM_keys l x v)
  rw [List.length_map] at h
  rw [h]
  split <;> simp
theorem putM_nd (h : (l.map Prod.fst).Nodup) (x : Int × Int) (v : Value) : ((putM l x v).map Prod.fst).Nodup := by
  rw [putM_keys]
  split
  · exact h
  · rename_i hn
    rw [List.nodup_append]
    refine ⟨h, by simp, fun a ha c hc => ?_⟩
    obtain rfl := List.mem_singleton.1 hc
    exact fun e => hn (e ▸ ha)
theorem Tells.keys {D : DataW Value} (h : Tells D l) {x : Int × Int} (hx : Ok x) : Maps.has D (kl x) = true ↔ x ∈ l.map Prod.fst :=
  ⟨fun hh => by obtain ⟨v, hv⟩ := h.only x hx hh; exact List.mem_map.2 ⟨_, hv, rfl⟩, fun hm => by obtain ⟨e, he, rfl⟩ := List.mem_map.1 hm; exact (h.has e he).1⟩
/-- 'm[k] = v'. -/
theorem Mp.put {T e : TypeId} (h : Mp w b l) (ht : Try.prog.underlying T = some (.map 26 e)) (x : Int × Int) (hx : Ok x) (v : Value) (hn : l.length < maxLen) :
    ∃ w', (Instr.mapUpdate T (.map (some b)) (.agg #[.int .i64 x.1, .int .i64 x.2]) v).run Try.prog w = .ok () w' ∧ Mp w' b (putM l x v) ∧ w.grownBy w' (some b) := by
  obtain ⟨D, hD, hT⟩ := h.map
  obtain ⟨w', hr, hD', hg⟩ := hD.update law ht (by rw [hT.size]; exact hn) (key_of x hx) (val := v) (d := .held v) (ps := []) rfl
  have hm := hD.isMap
  refine ⟨w', hr, ⟨⟨_, tight hD', ?_, fun f hf => ?_, fun y hy hh => ?_⟩, fun f hf => ?_, putM_nd h.nd x v⟩, hg⟩
  · rw [size_put (hD.tidy law), putM_len, hT.size]
    by_cases hi : x ∈ l.map Prod.fst
    · rw [if_pos ((hT.keys hx).2 hi), if_pos hi]
    · rw [if_neg (fun k => hi ((hT.keys hx).1 k)), if_neg hi]
  · rcases mem_putM.1 hf with rfl | ⟨h1, h2⟩
    · exact ⟨has_put_same hm (kl_key _) _, fun z => atKey_put_same hm (kl_key _) _ z⟩
    · have hne : kl f.1 ≠ kl x := fun k => h2 (kl_inj (h.ok f h1) hx k)
      exact ⟨by rw [has_put_other hne]; exact (hT.has f h1).1, fun z => by rw [atKey_put_other hne]; exact (hT.has f h1).2 z⟩
  · by_cases e1 : y = x
    · subst e1
      exact ⟨v, mem_putM.2 (.inl rfl)⟩
    · rw [has_put_other (fun k => e1 (kl_inj hy hx k))] at hh
      obtain ⟨u, hu⟩ := hT.only y hy hh
      exact ⟨u, mem_putM.2 (.inr ⟨hu, e1⟩)⟩
  · rcases mem_putM.1 hf with rfl | ⟨h1, _⟩
    · exact hx
    · exact h.ok f h1
theorem mem_delM {x : Int × Int} {e : (Int × Int) × Value} : e ∈ delM l x ↔ e ∈ l ∧ e.1 ≠ x := by
  unfold delM
  rw [List.mem_filter, decide_eq_true_iff]
theorem delM_len (h : (l.map Prod.fst).Nodup) (x : Int × Int) : (delM l x).length + (if x ∈ l.map Prod.fst then 1 else 0) = l.length := by
  induction l with
  | nil => simp [delM]
  | cons e l ih =>
    rw [List.map_cons, List.nodup_cons] at h
    have ih := ih h.2
    unfold delM at ih ⊢
    by_cases he : e.1 = x
    · have hx : x ∉ l.map Prod.fst := he ▸ h.1
      rw [if_neg hx] at ih
      rw [List.filter_cons_of_neg (by simp [he]), if_pos (by rw [List.map_cons, he]; exact List.mem_cons_self ..), List.length_cons]
      omega
    · rw [List.filter_cons_of_pos (by simp [he]), List.length_cons, List.length_cons]
      have : (x ∈ (e :: l).map Prod.fst) = (x ∈ l.map Prod.fst) := by
        rw [List.map_cons, List.mem_cons]
        exact propext ⟨fun h => h.resolve_left (fun k => he k.symm), .inr⟩
      rw [show (if x ∈ List.map Prod.fst (e :: l) then 1 else 0) = (if x ∈ List.map Prod.fst l then 1 else 0) by simp only [this]]
      omega
theorem Tells.del {D : DataW Value} (h : Tells D l) (ht : Tidy D) (hk : ∀ e, e ∈ l → Ok e.1) (hn : (l.map Prod.fst).Nodup) {x : Int × Int} (hx : Ok x) : Tells (D.del (kl x)) (delM l x) := by
  refine ⟨?_, fun f hf => ?_, fun y hy hh => ?_⟩
  · have h1 := size_del (k := kl x) ht
    have h2 := delM_len hn x
    rw [h.size] at h1
    by_cases hi : x ∈ l.map Prod.fst
    · rw [if_pos ((h.keys hx).2 hi)] at h1; rw [if_pos hi] at h2; omega
    · rw [if_neg (fun k => hi ((h.keys hx).1 k))] at h1; rw [if_neg hi] at h2; omega
  · obtain ⟨h1, h2⟩ := mem_delM.1 hf
    have hne : kl f.1 ≠ kl x := fun k => h2 (kl_inj (hk f h1) hx k)
    exact ⟨by rw [has_del_other hne]; exact (h.has f h1).1, fun z => by rw [atKey_del_other hne]; exact (h.has f h1).2 z⟩
  · by_cases e1 : y = x
    · subst e1
      rw [has_del_same] at hh
      cases hh
    · rw [has_del_other (fun k => e1 (kl_inj hy hx k))] at hh
      obtain ⟨u, hu⟩ := h.only y hy hh
      exact ⟨u, mem_delM.2 ⟨hu, e1⟩⟩
theorem delM_nd (h : (l.map Prod.fst).Nodup) (x : Int × Int) : ((delM l x).map Prod.fst).Nodup := h.sublist (List.Sublist.map _ List.filter_sublist)
/-- 'delete(m, k)'. -/
theorem Mp.drop {T e : TypeId} (h : Mp w b l) (ht : Try.prog.underlying T = some (.map 26 e)) (x : Int × Int) (hx : Ok x) (ty : TypeId) :
    ∃ w', (Builtin.delete_ #[T, 26] ty #[.map (some b), .agg #[.int .i64 x.1, .int .i64 x.2]]).run Try.prog w = .ok (.tuple #[]) w' ∧ Mp w' b (delM l x) ∧ w.grownBy w' (some b) := by
  obtain ⟨D, hD, hT⟩ := h.map
  obtain ⟨w', hr, hD', hg⟩ := hD.drop law ht (key_of x hx) ty
  exact ⟨w', hr, ⟨⟨_, tight hD', hT.del (hD.tidy law) h.ok h.nd hx⟩, fun f hf => h.ok f (mem_delM.1 hf).1, delM_nd h.nd x⟩, hg.grown⟩
/-! ### Ranging -/
/-- A range over the map is under way; left: which are still to come. -/
structure Rg (w : World) (b r : Nat) (l : Ents) (left : Lit → Bool) : Prop where
  map : ∃ (D : DataW Value) (n cnt : Nat), w.ranges Try.prog 26 asIs b r n D left cnt ∧ Tells D l
  ok : ∀ e, e ∈ l → Ok e.1
  nd : (l.map Prod.fst).Nodup
theorem Rg.mp (h : Rg w b r l left) : Mp w b l := by
  obtain ⟨D, n, cnt, hD, hT⟩ := h.map
  exact ⟨⟨D, tight hD.owns, hT⟩, h.ok, h.nd⟩
theorem Rg.lt (h : Rg w b r l left) : b < w.heap.size ∧ r < w.heap.size ∧ r ≠ b := by
  obtain ⟨D, n, cnt, hD, hT⟩ := h.map
  exact ⟨hD.owns.lt, hD.lt, hD.ne⟩
theorem Rg.kept {row : Option Nat} (h : Rg w b r l left) (hg : w.grownBy w' row) (hb : some b ≠ row) (hr : some r ≠ row) : Rg w' b r l left := by
  obtain ⟨D, n, cnt, hD, hT⟩ := h.map
  exact ⟨⟨D, n, cnt, hD.kept hg hb hr, hT⟩, h.ok, h.nd⟩
theorem Rg.below (h : Rg w b r l left) (hb : Below w.heap.size w w') : Rg w' b r l left := h.kept (grown_below hb) (by simp) (by simp)
theorem Rg.left_kept {row : Option Nat} (h : Rg w b r l left) (hg : w.grownBy w' row) (hb : some b ≠ row) (hr : some r ≠ row) : w'.rangeLeft b r = w.rangeLeft b r := by
  obtain ⟨D, n, cnt, hD, hT⟩ := h.map
  rw [hD.left_eq, (hD.kept hg hb hr).left_eq]
theorem Rg.left_below (h : Rg w b r l left) (hb : Below w.heap.size w w') : w'.rangeLeft b r = w.rangeLeft b r := h.left_kept (grown_below hb) (by simp) (by simp)
def strikeL (left : Lit → Bool) (x : Int × Int) : Lit → Bool := fun z => left z && !z.sameKey (kl x)
/-- Those that have come. -/
def doneL (l : Ents) (left : Lit → Bool) : Ents := l.filter fun e => !left (kl e.1)
theorem done_end (h : ∀ e, e ∈ l → left (kl e.1) = false) : doneL l left = l := by
  unfold doneL
  exact List.filter_eq_self.2 fun e he => by rw [h e he]; rfl
theorem done_step (hk : ∀ e, e ∈ l → Ok e.1) (hn : (l.map Prod.fst).Nodup) {e : (Int × Int) × Value} (he : e ∈ l) (hl : left (kl e.1) = true) : (doneL l (strikeL left e.1)).Perm (doneL l left ++ [e]) := by
  unfold doneL
  induction l with
  | nil => cases he
  | cons f l ih =>
    rw [List.map_cons, List.nodup_cons] at hn
    have hk' : ∀ e, e ∈ l → Ok e.1 := fun e h => hk e (List.mem_cons_of_mem _ h)
    rcases List.mem_cons.1 he with rfl | he
    · rw [List.filter_cons_of_pos (by unfold strikeL; rw [WideAt.sameKey_self (kl_key _)]; simp), List.filter_cons_of_neg (by rw [hl]; simp)]
      have same : l.filter (fun g => !strikeL left e.1 (kl g.1)) = l.filter (fun g => !left (kl g.1)) := by
        refine List.filter_congr fun g hg => ?_
        unfold strikeL
        rw [kl_same (hk' g hg) (hk e he), decide_eq_false (fun k => hn.1 (List.mem_map.2 ⟨g, hg, k⟩))]
        simp
      rw [same]
      exact (List.perm_append_singleton e _).symm
    · have hne : f.1 ≠ e.1 := fun k => hn.1 (List.mem_map.2 ⟨e, he, k.symm⟩)
      have hfs : strikeL left e.1 (kl f.1) = left (kl f.1) := by
        unfold strikeL
        rw [kl_same (hk f (List.mem_cons_self ..)) (hk' e he), decide_eq_false hne]
        simp
      cases hlf : left (kl f.1)
      · rw [List.filter_cons_of_pos (by rw [hfs, hlf]; rfl), List.filter_cons_of_pos (by rw [hlf]; rfl)]
        exact (ih hk' hn.2 he).cons f
      · rw [List.filter_cons_of_neg (by rw [hfs, hlf]; simp), List.filter_cons_of_neg (by rw [hlf]; simp)]
        exact ih hk' hn.2 he
section
variable {ops : Array Oper} {rest : List Oper} {o : Oper} {a : Act} {Q : Exit → Act → World → Prop}
/-- 'range m'. -/
theorem wpList_range_mp {T e : TypeId} (h : Mp w b l) (hg : o.guard = none) (m : Operand) (hop : o.op = Op.range T m) (ht : Try.prog.underlying T = some (.map 26 e)) (hm : a.eval m = .map (some b))
    (hK : ∀ w' left, Rg w' b w.heap.size l left → doneL l left = [] → Below w.heap.size w w' → wpList Try.prog ops Q rest (a.put o.dst (.pointer (some ⟨w.heap.size, 0, none⟩))) w') : wpList Try.prog ops Q (o :: rest) a w := by
  obtain ⟨D, hD, hT⟩ := h.map
  refine wpList_range_own w hg m T hop 26 e law ht asIs b _ D hm hD (fun w' hrg hgr _ => ?_)
  refine hK w' _ ⟨⟨D, _, _, hrg, hT⟩, h.ok, h.nd⟩ ?_ ((kept_refl w).grown hgr (Nat.le_refl _) (fun k hk => by cases hk))
  unfold doneL
  exact List.filter_eq_nil_iff.2 fun e he => by rw [(hT.has e he).1]; simp
/-- The step: nothing is left, or an entry has come. -/
theorem wpList_next_rg (h : Rg w b r l left) (hg : o.guard = none) (it : Operand) (hop : o.op = Op.next it false) (hit : a.eval it = .pointer (some ⟨r, 0, none⟩))
    (hDone : doneL l left = l → wpList Try.prog ops Q rest (a.put o.dst (.tuple #[.bool false])) w)
    (hMore : ∀ (e : (Int × Int) × Value) (w' : World), e ∈ l → Rg w' b r l (strikeL left e.1) → (doneL l (strikeL left e.1)).Perm (doneL l left ++ [e]) → w'.rangeLeft b r < w.rangeLeft b r → w.grownBy w' (some r) →
      (Instr.entry (.pointer (some ⟨r, 0, none⟩))).run Try.prog w' = .ok (.tuple #[.agg #[.int .i64 e.1.1, .int .i64 e.1.2], e.2]) w' → wpList Try.prog ops Q rest (a.put o.dst (.tuple #[.bool true, .agg #[.int .i64 e.1.1, .int .i64 e.1.2], e.2])) w') :
    wpList Try.prog ops Q (o :: rest) a w := by
  obtain ⟨D, n, cnt, hD, hT⟩ := h.map
  refine wpList_next_ranges w hg it hop 26 law asIs (fun x : Int × Int => iv x) (fun v : Value => v) (fun key k hk => ?_) (fun v y _ => ⟨v, rfl⟩) b r n D left cnt hit hD (fun _ hl => hDone (done_end fun e _ => hl _)) (fun x c k y w' cnt' hkey hlk hv hat hrg hlt hgr _ hen => ?_)
  · obtain ⟨x, _, e, _⟩ := key_inv hk
    exact ⟨x, e⟩
  · obtain ⟨x', hx', e1, rfl⟩ := key_inv hkey
    have ex : x = x' := by
      obtain ⟨x1, x2⟩ := x
      obtain ⟨y1, y2⟩ := x'
      unfold iv at e1
      simp at e1
      simp [e1]
    subst ex
    have hv : (some (DataW.held c, ([] : List MemPlace))) = some y := hv
    injection hv with hv
    subst hv
    have hh : Maps.has D (kl x) = true := has_true_of_atKey hat
    obtain ⟨v, hm⟩ := hT.only x hx' hh
    have hvc : v = c := by
      have h1 := (hT.has _ hm).2 .nil
      have h2 := hat .nil
      have h3 : (DataW.held v : DataW Value) = .held c := h1.symm.trans h2
      injection h3
    subst hvc
    exact hMore (x, v) w' hm ⟨⟨D, n, cnt', hrg, hT⟩, h.ok, h.nd⟩ (done_step h.ok h.nd hm hlk) (by rw [hrg.left_eq, hD.left_eq]; exact hlt) hgr hen
/-- 'delete(m, k)' in the round, of the entry that has just come. -/
theorem wpList_delete_rg {T e : TypeId} (h : Rg w b r l left) (hg : o.guard = none) (m x : Operand) (hop : o.op = Op.call { callee := Callee.builtin Builtin.delete, args := #[m, x], argTypes := #[T, 26] })
    (ht : Try.prog.underlying T = some (.map 26 e)) (hm : a.eval m = .map (some b)) (k : Int × Int) (hk : Ok k) (hx : a.eval x = .agg #[.int .i64 k.1, .int .i64 k.2])
    (hK : ∀ w', Rg w' b r (delM l k) (strikeL left k) → w'.rangeLeft b r ≤ w.rangeLeft b r → w.grownBy w' (some b) → wpList Try.prog ops Q rest (a.put o.dst (.tuple #[])) w') : wpList Try.prog ops Q (o :: rest) a w := by
  obtain ⟨D, n, cnt, hD, hT⟩ := h.map
  refine wpList_delete_ranges w hg m x T 26 hop e law ht asIs b r n D left cnt hm hD _ (kl k) hx (key_of k hk) (fun w' cnt' hrg hle hgr => ?_)
  exact hK w' ⟨⟨_, n, cnt', hrg, hT.del (hD.owns.tidy law) h.ok h.nd hk⟩, fun f hf => h.ok f (mem_delM.1 hf).1, delM_nd h.nd k⟩ (by rw [hrg.left_eq, hD.left_eq]; exact hle) hgr.grown
end
end
end Go.Proofs.Ytfihcgimgngmhaa
/- A struct is stored into an own row of structs; a chain's two operations for structs. No condition: nothing here speaks of one function. -/
namespace Go.Proofs.Ytfihcgimgngmhaa
set_option maxRecDepth 100000
open Go.RowKit
theorem take_app {α : Type} (x L : List α) (k : Nat) : (x ++ L).take (x.length + k) = x ++ L.take k := by rw [List.take_append, List.take_of_length_le (Nat.le_add_right _ _), Nat.add_sub_cancel_left]
theorem drop_app {α : Type} (x L : List α) (k : Nat) : (x ++ L).drop (x.length + k) = L.drop k := by rw [← List.drop_drop, List.drop_left]
theorem cellsV_set {sz : Nat} : ∀ {xs : List (List Value)} {j : Nat}, AllV sz xs → j < xs.length → ∀ y : List Value, cellsV (xs.set j y) = (cellsV xs).take (j * sz) ++ y ++ (cellsV xs).drop (j * sz + sz)
  | [], j, _, hj, _ => absurd hj (Nat.not_lt_zero _)
  | x :: xs, 0, ha, _, y => by
    have hx := (ha x (List.mem_cons_self ..)).1
    rw [List.set_cons_zero, cellsV_cons, cellsV_cons, Nat.zero_mul, Nat.zero_add, List.take_zero, List.nil_append, ← hx, List.drop_left]
  | x :: xs, j + 1, ha, hj, y => by
    have hx := (ha x (List.mem_cons_self ..)).1
    have ih := cellsV_set (j := j) (fun z hz => ha z (List.mem_cons_of_mem _ hz)) (Nat.lt_of_succ_lt_succ hj) y
    have e : (j + 1) * sz = x.length + j * sz := by rw [Nat.succ_mul, hx]; omega
    rw [List.set_cons_succ, cellsV_cons, cellsV_cons, ih, e, take_app, Nat.add_assoc, drop_app]
    simp only [List.append_assoc]
/-- One of a row's structs, stored anew. -/
theorem rw_stored {base sz gg n m : Nat} {e : TypeId} {w : World} {xs : List (List Value)} (h : Rw base e sz w (.slice (some ⟨gg, 0, none⟩) n m) xs) (ha : AllV sz xs) {j : Nat} (hj : j < xs.length) {y : List Value} (hy : y.length = sz) (h1 : ∀ u ∈ y, u.oneCell' = true) :
    ∃ w', (storeCells ⟨gg, j * sz, none⟩ y 0).run Try.prog w = .ok () w' ∧ Rw base e sz w' (.slice (some ⟨gg, 0, none⟩) n m) (xs.set j y) ∧ w.grownBy w' (some gg) := by
  unfold Rw at h ⊢
  rcases h.2 with ⟨e0, _⟩ | ⟨g2, cap, cur, e0, hb, hg, hnc, hcm, hcs, htake⟩
  · cases e0
  · injection e0 with e1 e2 e3
    injection e1 with e1
    injection e1 with e1 _ _
    subst e1 e2 e3
    have hl := length_cellsV ha
    have hjz : j * sz + sz ≤ xs.length * sz := by
      have := Nat.mul_le_mul_right sz hj
      rw [Nat.succ_mul] at this
      exact this
    have hnz : xs.length * sz ≤ m * sz := Nat.mul_le_mul_right _ hnc
    have hs := run_storeCells_at Try.prog gg (j * sz) e y 0 cur w hg (by rw [hcs, hy]; omega) h1
    refine ⟨_, hs, ⟨?_, .inr ⟨gg, m, _, by rw [List.length_set], hb, setRow_heap w gg cur _ e _ hg, by rw [List.length_set]; exact hnc, hcm, ?_, ?_⟩⟩, ⟨rfl, rfl, rfl, by simp, fun k _ hk => setRow_other w gg k _ (fun e => hk (by rw [e]))⟩⟩
    · rw [length_cellsV (m := sz) (fun z hz => by
        rcases List.mem_or_eq_of_mem_set hz with hz | rfl
        · exact ha z hz
        · exact ⟨hy, h1⟩)]
    · rw [List.size_toArray, List.length_append, List.length_append, List.length_take, List.length_drop, Array.length_toList, hcs, hy]
      omega
    · rw [List.length_set, cellsV_set ha hj, Nat.add_zero, hy]
      have htl : cur.toList.take (xs.length * sz) = cellsV xs := htake
      have c1 : (cellsV xs).take (j * sz) = cur.toList.take (j * sz) := by rw [← htl, List.take_take, Nat.min_eq_left (by omega)]
      have c2 : (cellsV xs).drop (j * sz + sz) = (cur.toList.drop (j * sz + sz)).take (xs.length * sz - (j * sz + sz)) := by rw [← htl, List.drop_take]
      rw [c1, c2]
      have hcl : cur.toList.length = m * sz := by rw [Array.length_toList, hcs]
      have hp : (cur.toList.take (j * sz) ++ y).length = j * sz + sz := by rw [List.length_append, List.length_take, hcl, hy]; omega
      show List.take (xs.length * sz) (cur.toList.take (j * sz) ++ y ++ cur.toList.drop (j * sz + sz)) = _
      rw [List.take_append, List.take_of_length_le (by rw [hp]; exact hjz), hp]
/-- .. as a step of a drawn region. -/
theorem step_store_rw {ops : Array Oper} {d : Option Tmp} {ty T : TypeId} {ps : String} {af : Array Edge} {p v : Operand} {a : Act} {w : World} {K : Act → World → Prop} {Q : Exit → Act → World → Prop} {E : Prop} {base sz gg n m off : Nat} {e : TypeId} {xs : List (List Value)} {y : List Value} {V : Value} (j : Nat)
    (hx : a.eval p = .pointer (some ⟨gg, off, none⟩)) (hv : a.eval v = V) (hoff : off = j * sz) (hc : V.cells = y.toArray) (h : Rw base e sz w (.slice (some ⟨gg, 0, none⟩) n m) xs) (ha : AllV sz xs) (hj : j < xs.length) (hy : y.length = sz) (h1 : ∀ u ∈ y, u.oneCell' = true) (hi : (Try.prog.info? T).map (·.size) = some sz)
    (hk : ∀ w', Rw base e sz w' (.slice (some ⟨gg, 0, none⟩) n m) (xs.set j y) → w.grownBy w' (some gg) → K (a.put d undef) w') :
    if Region.wanted ({ dst := d, op := .store T p v, type := ty, pos := ps, after := af, guard := none } : Oper) (yielded ops a.tmps) = true then Oper.wp Try.prog { dst := d, op := .store T p v, type := ty, pos := ps, after := af, guard := none } a w K Q else E := by
  rw [if_pos (by simp [Region.wanted])]
  subst hoff
  obtain ⟨w', hs, h2, h3⟩ := rw_stored h ha hj hy h1
  have hq : (storeVar T ⟨gg, j * sz, none⟩ V).run Try.prog w = .ok () w' := by
    cases hq : Try.prog.info? T with
    | none => simp [hq] at hi
    | some i =>
      have hs6 : i.size = sz := by simpa [hq] using hi
      simp [storeVar, sizeOf, typeInfo, hq, hc, hs6, hy, hs]
  unfold Oper.wp execOp
  simp only [hx, hv, Instr.storeAt, Instr.sureAddr, Sem.run_bind, Sem.run_pure, Result.andThen_ok, hq]
  exact hk w' h2 h3
/-- What elements of a row are. -/
def ElM (T e : TypeId) (sz : Nat) : Prop := ∃ i z by', Try.prog.underlying T = some (.slice e) ∧ Try.prog.info? e = some i ∧ i.zero = some z ∧ i.size = sz ∧ i.bytes = by' ∧ z.cells.size = sz ∧ by' ≤ 200
/-- A chain's two operations: the literal of one struct, and its append. -/
theorem op2m_of {T e : TypeId} {sz : Nat} (hE : ElM T e sz) (hs0 : 0 < sz) {ops : Array Oper} {Q : Exit → Act → World → Prop} {base b d : Nat} {xs : List (List Value)} {z : List Value} {x0 U : Value} {ou os : Operand} {ib ia : Nat} {ob oa : Oper} (hz : z.length = sz) (h1 : ∀ u ∈ z, u.oneCell' = true)
    (hrun : ∀ w, (Instr.buildSlice T 1 #[(0, U)]).run Try.prog w = .ok (.slice (some ⟨w.heap.size, 0, none⟩) 1 1) (w.alloc (.cells z.toArray e)))
    (hob : ops[ib]? = some ob) (hgb : ob.guard = none) (hdb : ob.dst = some b) (hbo : ob.op = .buildSlice T 1 #[(0, ou)])
    (hoa : ops[ia]? = some oa) (hga : oa.guard = none) (hda : oa.dst = some d) (hao : oa.op = .call { callee := .builtin .append, args := #[os, .tmp b], argTypes := #[T, T] }) (hb : xs.length + 1 ≤ 1001) :
    Op2 Try.prog ops Q ⟨b, d, e, sz, xs, z, x0⟩ base ou os U ib ia := by
  obtain ⟨i, zz, by', hu, hi, hz0, hz1, hz2, hz3, hby⟩ := hE
  refine ⟨fun a w K h2 h3 => ?_, fun a w K g h2 h3 h4 h5 h6 h7 => ?_⟩
  · refine wpOp_step hob (fun K' hK => ?_)
    have hw : Region.wanted ob (yielded ops a.tmps) = true := by simp [Region.wanted, hgb]
    rw [if_pos hw]
    unfold Oper.wp execOp
    simp only [hbo, Sem.run_bind, Sem.run_pure, Result.andThen_ok, List.map_toArray, List.map_cons, List.map_nil, h2, hrun]
    refine hK _ _ ?_
    rw [hdb]
    exact h3
  · refine wpOp_step hoa (fun K' hK => ?_)
    have hw : Region.wanted oa (yielded ops a.tmps) = true := by simp [Region.wanted, hga]
    rw [if_pos hw]
    have hbb : (xs.length + 1) * by' ≤ 1001 * 200 := Nat.mul_le_mul hb hby
    obtain ⟨v', w', hr, r1, r2, _, r4⟩ := run_append_own_at (P := Try.prog) (w := w) base T oa.type e i zz sz by' hu hi hz0 hz1 hz2 hz3 hs0 x0 xs.length (cellsV xs) h5 ⟨g, 0, none⟩ 1 1 z (by omega) (fun j u hj => by
      have := h6.cell j
      rw [Go.WideShapes.add_plain, Nat.zero_add, this]
      simpa using hj) h1 (by unfold maxLen; omega) (by omega) h4
    unfold Oper.wp execOp
    simp only [hao, resolve, invoke, builtin, Sem.run_bind, Sem.run_pure, Result.andThen_ok, List.map_toArray, List.map_cons, List.map_nil, h2, h3, hr]
    refine hK _ _ ?_
    rw [hda]
    refine h7 v' w' ?_ r2 r4
    unfold Rw
    rw [List.length_append, cellsV_append]
    have : cellsV [z] = z := by unfold cellsV; simp
    rw [this]
    exact r1
theorem rrightI_any (r s : Int) (w : World) : Calls Try.prog 31 #[.agg #[.int .i64 r, .int .i64 s]] w fun e w' => e = .returned (.bool (rightI r s)) ∧ Below w.heap.size w w' := by
  go_enter Try.func31, Try.ntmps31
  go_wp2
  all_goals (go_ret; exact ⟨ret_bool (by unfold rightI repB; first | (simp [*]; done) | (simp [*] <;> omega)), (Below.refl _ _).alloc (Nat.le_refl _) _⟩)
end Go.Proofs.Ytfihcgimgngmhaa
/- An operation may go first for which number m waits through others. No condition: nothing here speaks of a program. -/
namespace Go.Proofs.Ytfihcgimgngmhaa
open Go.RowKit
section
variable {P : Program} {ops : Array Oper} {Q : Exit → Act → World → Prop} {md : Region.Mode} {S : World → Prop} {m : Nat}
/-- Does number m wait for number i, itself or through others (f of them at most)? -/
def dep (md : Region.Mode) (ops : Array Oper) : Nat → Nat → Nat → Bool
  | 0, m, i => waits md ops m i
  | f + 1, m, i => waits md ops m i || (match ops[m]? with
    | some o => o.after.toList.any fun e => Region.binds md e && dep md ops f e.on i
    | none => false)
/-- What is listed stands behind all that it waits for. -/
def closedL (md : Region.Mode) (ops : Array Oper) (listed : Array Bool) : Bool := (List.range ops.size).all fun j => !listed.getD j false || (match ops[j]? with
    | some o => o.after.toList.all fun e => !Region.binds md e || listed.getD e.on false
    | none => true)
theorem closed_iff {listed : Array Bool} (h : closedL md ops listed = true) {j : Nat} {o : Oper} (ho : ops[j]? = some o) (hl : listed.getD j false = true) {e : Edge} (he : e ∈ o.after.toList) (hb : Region.binds md e = true) : listed.getD e.on false = true := by
  unfold closedL at h
  have hj : j < ops.size := by
    rcases Nat.lt_or_ge j ops.size with h1 | h1
    · exact h1
    · rw [Array.getElem?_eq_none h1] at ho; cases ho
  have h1 := List.all_eq_true.1 h j (List.mem_range.2 hj)
  rw [hl, ho] at h1
  simp only [Bool.not_true, Bool.false_or] at h1
  have h2 := List.all_eq_true.1 h1 e he
  rw [hb] at h2
  simpa using h2
theorem waits_edge {m i : Nat} (h : waits md ops m i = true) : ∃ o, ops[m]? = some o ∧ ∃ e, e ∈ o.after.toList ∧ Region.binds md e = true ∧ e.on = i := by
  unfold waits at h
  cases ho : ops[m]? with
  | none => rw [ho] at h; cases h
  | some o =>
    rw [ho] at h
    obtain ⟨e, he, h2⟩ := List.any_eq_true.1 h
    rw [Bool.and_eq_true, beq_iff_eq] at h2
    exact ⟨o, rfl, e, he, h2.1, h2.2⟩
theorem dep_listed {listed : Array Bool} (h : closedL md ops listed = true) : ∀ (f : Nat) {m i : Nat}, listed.getD m false = true → dep md ops f m i = true → listed.getD i false = true
  | 0, m, i, hm, hd => by
    obtain ⟨o, ho, e, he, hb, rfl⟩ := waits_edge hd
    exact closed_iff h ho hm he hb
  | f + 1, m, i, hm, hd => by
    have hd : (waits md ops m i || (match ops[m]? with
      | some o => o.after.toList.any fun e => Region.binds md e && dep md ops f e.on i
      | none => false)) = true := hd
    rw [Bool.or_eq_true] at hd
    rcases hd with hd | hd
    · obtain ⟨o, ho, e, he, hb, rfl⟩ := waits_edge hd
      exact closed_iff h ho hm he hb
    · cases ho : ops[m]? with
      | none => rw [ho] at hd; cases hd
      | some o =>
        rw [ho] at hd
        obtain ⟨e, he, h2⟩ := List.any_eq_true.1 hd
        rw [Bool.and_eq_true] at h2
        exact dep_listed h f (closed_iff h ho hm he h2.1) h2.2
theorem ready_after {listed : Array Bool} {m : Nat} (hr : m ∈ Region.ready md ops listed) {o : Oper} (ho : ops[m]? = some o) {e : Edge} (he : e ∈ o.after.toList) (hb : Region.binds md e = true) : listed.getD e.on false = true := by
  obtain ⟨_, o', ho', hall⟩ := mem_ready.1 hr
  rw [ho] at ho'
  cases ho'
  exact hall e (Array.mem_toList_iff.1 he) hb
theorem dep_ready {listed : Array Bool} (h : closedL md ops listed = true) {f m i : Nat} (hr : m ∈ Region.ready md ops listed) (hd : dep md ops f m i = true) : listed.getD i false = true := by
  have w1 : waits md ops m i = true → listed.getD i false = true := fun hw => by
    obtain ⟨o, ho, e, he, hb, rfl⟩ := waits_edge hw
    exact ready_after hr ho he hb
  cases f with
  | zero => exact w1 hd
  | succ f =>
    have hd : (waits md ops m i || (match ops[m]? with
      | some o => o.after.toList.any fun e => Region.binds md e && dep md ops f e.on i
      | none => false)) = true := hd
    rw [Bool.or_eq_true] at hd
    rcases hd with hd | hd
    · exact w1 hd
    · cases ho : ops[m]? with
      | none => rw [ho] at hd; cases hd
      | some o =>
        rw [ho] at hd
        obtain ⟨e, he, h2⟩ := List.any_eq_true.1 hd
        rw [Bool.and_eq_true] at h2
        exact dep_listed h f (ready_after hr ho he h2.1) h2.2
theorem getD_set_mono {listed : Array Bool} {j k : Nat} (h : listed.getD k false = true) : (listed.setIfInBounds j true).getD k false = true := by
  by_cases hjk : j = k
  · subst hjk
    have hl : j < listed.size := by
      rcases Nat.lt_or_ge j listed.size with h1 | h1
      · exact h1
      · simp [Array.getElem?_eq_none h1] at h
    simp [hl]
  · rw [getD_set_ne false hjk]
    exact h
theorem closed_set {listed : Array Bool} (h : closedL md ops listed = true) {j : Nat} (hr : j ∈ Region.ready md ops listed) : closedL md ops (listed.setIfInBounds j true) = true := by
  unfold closedL
  refine List.all_eq_true.2 fun k hk => ?_
  cases hl : (listed.setIfInBounds j true).getD k false
  · rfl
  · cases ho : ops[k]? with
    | none => rfl
    | some o =>
      show (!true || o.after.toList.all fun e => !Region.binds md e || (listed.setIfInBounds j true).getD e.on false) = true
      rw [Bool.not_true, Bool.false_or]
      refine List.all_eq_true.2 fun e he => ?_
      cases hb : Region.binds md e
      · rfl
      · rw [Bool.not_true, Bool.false_or]
        by_cases hjk : j = k
        · subst hjk
          exact getD_set_mono (ready_after hr ho he hb)
        · rw [getD_set_ne false hjk] at hl
          exact getD_set_mono (closed_iff h ho hl he hb)
/-- One that reads, and for which number m waits, itself or through others, may go first. -/
theorem anyU_take2 {i : Nat} {oi : Oper} {v : Value} (hi : ops[i]? = some oi) (hs : Region.noSelect ops = true) (f : Nat) (hw : dep md ops f m i = true) (him : (i == m) = false) (hQ : ∀ c a w, Q (.panic c) (a.put oi.dst v) w → Q (.panic c) a w) :
    ∀ {n : Nat} {listed : Array Bool} {a : Act} {w : World}, listed.getD m true = false → closedL md ops listed = true → Region.free md ops listed i = true → (Region.ready md ops listed).contains i = true → YieldsIf P ops S oi v a → S w →
      anyU P md ops Q S m n (listed.setIfInBounds i true) (a.put oi.dst v) w → anyU P md ops Q S m (n + 1) listed a w := by
  have hsel := Region.noSelect_spec hs
  have hne : i ≠ m := fun e => by subst e; simp at him
  have main : ∀ (n : Nat) (listed : Array Bool) (a : Act) (w : World), listed.getD m true = false → closedL md ops listed = true →
      (∀ j oj, ops[j]? = some oj → j ≠ i → listed.getD j true = false → (∀ e ∈ oj.after, Region.binds md e = true → e.on ≠ i) → oi.apart ops oj = true) →
      i ∈ Region.ready md ops listed → YieldsIf P ops S oi v a → S w → anyU P md ops Q S m n (listed.setIfInBounds i true) (a.put oi.dst v) w → anyU P md ops Q S m (n + 1) listed a w := by
    intro n
    induction n with
    | zero =>
      intro listed a w hlm _ _ hr hy hS H
      have H' : Region.ready md ops (listed.setIfInBounds i true) = [] ∧ Q .normal (a.put oi.dst v) w := H
      refine ⟨fun h0 => absurd (h0 ▸ hr) (by simp), fun j hj => ?_⟩
      rcases Classical.em (j = i) with rfl | hji
      · exact hy.wpOp hi hS ⟨fun _ _ => hS, H⟩
      · exact absurd (H'.1 ▸ ready_mono hj hji) (by simp)
    | succ n ih =>
      intro listed a w hlm hcl hfree hr hy hS H
      refine ⟨fun h0 => absurd (h0 ▸ hr) (by simp), fun j hj => ?_⟩
      rcases Classical.em (j = i) with rfl | hji
      · exact hy.wpOp hi hS ⟨fun _ _ => hS, H⟩
      · have hun := (mem_ready.1 hr).1
        have hjm : j ≠ m := fun e => getD_differ hun (dep_ready hcl (e ▸ hj) hw)
        obtain ⟨hju, oj, hoj, hall⟩ := mem_ready.1 hj
        have hno : ∀ e ∈ oj.after, Region.binds md e = true → e.on ≠ i := fun e he hb k => getD_differ hun (by rw [← k]; exact hall e he hb)
        have step := wpOp_putIf hoj (hfree j oj hoj hji hju hno) (fun cs b => hsel i oi cs b hi) (fun cs b => hsel j oj cs b hoj) hQ hy (H.2 j (ready_mono hj hji))
        refine wpOp_mono (fun a' w' k => ⟨fun h1 _ => k.2.1 h1 (by rw [getD_set_ne true hne]; exact hlm), ih (listed.setIfInBounds j true) a' w' (by rw [getD_set_ne true hjm]; exact hlm) (closed_set hcl hj) (fun x ox hox hxi hxu hxno => hfree x ox hox hxi ?_ hxno) (ready_mono hr (Ne.symm hji)) k.1 (k.2.1 hjm (by rw [getD_set_ne true hne]; exact hlm)) ?_⟩) step
        · rcases Classical.em (j = x) with rfl | hjx
          · exact hju
          · rwa [getD_set_ne true hjx] at hxu
        · rw [Array.setIfInBounds_comm _ _ hji]
          exact k.2.2
  intro n listed a w hlm hcl hf hr hy hS h
  exact main n listed a w hlm hcl (Region.free_spec hi hf) (by simpa using hr) hy hS h
/-- One that reads nothing of the world may go first, whoever waits for it. -/
theorem anyU_pure {i : Nat} {oi : Oper} {v : Value} (hi : ops[i]? = some oi) (hs : Region.noSelect ops = true) (him : (i == m) = false) (hQ : ∀ c a w, Q (.panic c) (a.put oi.dst v) w → Q (.panic c) a w) :
    ∀ {n : Nat} {listed : Array Bool} {a : Act} {w : World}, (listed.getD m true = false → S w) → Region.free md ops listed i = true → (Region.ready md ops listed).contains i = true → YieldsIf P ops (fun _ => True) oi v a →
      anyU P md ops Q S m n (listed.setIfInBounds i true) (a.put oi.dst v) w → anyU P md ops Q S m (n + 1) listed a w := by
  have hsel := Region.noSelect_spec hs
  have hne : i ≠ m := fun e => by subst e; simp at him
  have main : ∀ (n : Nat) (listed : Array Bool) (a : Act) (w : World), (listed.getD m true = false → S w) →
      (∀ j oj, ops[j]? = some oj → j ≠ i → listed.getD j true = false → (∀ e ∈ oj.after, Region.binds md e = true → e.on ≠ i) → oi.apart ops oj = true) →
      i ∈ Region.ready md ops listed → YieldsIf P ops (fun _ => True) oi v a → anyU P md ops Q S m n (listed.setIfInBounds i true) (a.put oi.dst v) w → anyU P md ops Q S m (n + 1) listed a w := by
    intro n
    induction n with
    | zero =>
      intro listed a w hS _ hr hy H
      have H' : Region.ready md ops (listed.setIfInBounds i true) = [] ∧ Q .normal (a.put oi.dst v) w := H
      refine ⟨fun h0 => absurd (h0 ▸ hr) (by simp), fun j hj => ?_⟩
      rcases Classical.em (j = i) with rfl | hji
      · exact hy.wpOp hi trivial ⟨fun _ => hS, H⟩
      · exact absurd (H'.1 ▸ ready_mono hj hji) (by simp)
    | succ n ih =>
      intro listed a w hS hfree hr hy H
      refine ⟨fun h0 => absurd (h0 ▸ hr) (by simp), fun j hj => ?_⟩
      rcases Classical.em (j = i) with rfl | hji
      · exact hy.wpOp hi trivial ⟨fun _ => hS, H⟩
      · have hun := (mem_ready.1 hr).1
        obtain ⟨hju, oj, hoj, hall⟩ := mem_ready.1 hj
        have hno : ∀ e ∈ oj.after, Region.binds md e = true → e.on ≠ i := fun e he hb k => getD_differ hun (by rw [← k]; exact hall e he hb)
        have step := wpOp_putIf hoj (hfree j oj hoj hji hju hno) (fun cs b => hsel i oi cs b hi) (fun cs b => hsel j oj cs b hoj) hQ hy (H.2 j (ready_mono hj hji))
        refine wpOp_mono (fun a' w' k => ⟨fun h1 h2 => k.2.1 h1 (by rw [getD_set_ne true hne]; exact h2), ih (listed.setIfInBounds j true) a' w' (fun h2 => ?_) (fun x ox hox hxi hxu hxno => hfree x ox hox hxi ?_ hxno) (ready_mono hr (Ne.symm hji)) k.1 ?_⟩) step
        · rcases Classical.em (j = m) with rfl | hjm
          · exfalso
            rcases Nat.lt_or_ge j listed.size with hl | hl
            · simp [hl] at h2
            · simp [hl] at h2
          · rw [getD_set_ne true hjm] at h2
            exact k.2.1 hjm (by rw [getD_set_ne true hne]; exact h2)
        · rcases Classical.em (j = x) with rfl | hjx
          · exact hju
          · rwa [getD_set_ne true hjx] at hxu
        · rw [Array.setIfInBounds_comm _ _ hji]
          exact k.2.2
  intro n listed a w hS hf hr hy h
  exact main n listed a w hS (Region.free_spec hi hf) (by simpa using hr) hy h
/-- All that an operation waits for stands ahead of it. -/
def backL (md : Region.Mode) (ops : Array Oper) : Bool := (List.range ops.size).all fun j => match ops[j]? with
    | some o => o.after.toList.all fun e => !Region.binds md e || decide (e.on < j)
    | none => true
theorem ready_some {listed : Array Bool} (hb : backL md ops = true) (hsz : listed.size = ops.size) : ∀ k, listed.getD k true = false → Region.ready md ops listed ≠ [] := by
  intro k
  induction k using Nat.strongRecOn with
  | ind k ih =>
    intro hk
    have hkl : k < listed.size := by
      rcases Nat.lt_or_ge k listed.size with h1 | h1
      · exact h1
      · simp [Array.getElem?_eq_none h1] at hk
    have hko : k < ops.size := hsz ▸ hkl
    obtain ⟨o, ho⟩ : ∃ o, ops[k]? = some o := ⟨_, Array.getElem?_eq_getElem hko⟩
    by_cases hall : ∀ e ∈ o.after, Region.binds md e = true → listed.getD e.on false = true
    · intro h0
      have : k ∈ Region.ready md ops listed := mem_ready.2 ⟨hk, o, ho, hall⟩
      rw [h0] at this
      cases this
    · obtain ⟨e, h1⟩ := Classical.not_forall.1 hall
      obtain ⟨he, h2⟩ := Classical.not_imp.1 h1
      obtain ⟨hbd, hne⟩ := Classical.not_imp.1 h2
      unfold backL at hb
      have h3 := List.all_eq_true.1 hb k (List.mem_range.2 hko)
      rw [ho] at h3
      have h4 := List.all_eq_true.1 h3 e (Array.mem_toList_iff.2 he)
      rw [hbd] at h4
      have h5 : e.on < k := by simpa using h4
      refine ih e.on h5 ?_
      have hel : e.on < listed.size := Nat.lt_trans h5 hkl
      have : listed.getD e.on false = false := by simpa using hne
      simp [hel] at this ⊢
      exact this
/-- One that reads nothing of the world may go first, though it waits for others, if what it reads is there. -/
theorem anyU_ahead {i : Nat} {oi : Oper} {v : Value} (hi : ops[i]? = some oi) (hs : Region.noSelect ops = true) (hb : backL md ops = true) (him : (i == m) = false) (hQ : ∀ c a w, Q (.panic c) (a.put oi.dst v) w → Q (.panic c) a w) :
    ∀ {n : Nat} {listed : Array Bool} {a : Act} {w : World}, (listed.getD m true = false → S w) → (listed.size == ops.size) = true → Region.free md ops listed i = true → listed.getD i true = false → YieldsIf P ops (fun _ => True) oi v a →
      anyU P md ops Q S m n (listed.setIfInBounds i true) (a.put oi.dst v) w → anyU P md ops Q S m (n + 1) listed a w := by
  have hsel := Region.noSelect_spec hs
  have hne : i ≠ m := fun e => by subst e; simp at him
  have main : ∀ (n : Nat) (listed : Array Bool) (a : Act) (w : World), (listed.getD m true = false → S w) → listed.size = ops.size →
      (∀ j oj, ops[j]? = some oj → j ≠ i → listed.getD j true = false → (∀ e ∈ oj.after, Region.binds md e = true → e.on ≠ i) → oi.apart ops oj = true) →
      listed.getD i true = false → YieldsIf P ops (fun _ => True) oi v a → anyU P md ops Q S m n (listed.setIfInBounds i true) (a.put oi.dst v) w → anyU P md ops Q S m (n + 1) listed a w := by
    intro n
    induction n with
    | zero =>
      intro listed a w hS hsz _ hun hy H
      have H' : Region.ready md ops (listed.setIfInBounds i true) = [] ∧ Q .normal (a.put oi.dst v) w := H
      refine ⟨fun h0 => absurd h0 (ready_some hb hsz i hun), fun j hj => ?_⟩
      rcases Classical.em (j = i) with rfl | hji
      · exact hy.wpOp hi trivial ⟨fun _ => hS, H⟩
      · exact absurd (H'.1 ▸ ready_mono hj hji) (by simp)
    | succ n ih =>
      intro listed a w hS hsz hfree hun hy H
      refine ⟨fun h0 => absurd h0 (ready_some hb hsz i hun), fun j hj => ?_⟩
      rcases Classical.em (j = i) with rfl | hji
      · exact hy.wpOp hi trivial ⟨fun _ => hS, H⟩
      · obtain ⟨hju, oj, hoj, hall⟩ := mem_ready.1 hj
        have hno : ∀ e ∈ oj.after, Region.binds md e = true → e.on ≠ i := fun e he hb k => getD_differ hun (by rw [← k]; exact hall e he hb)
        have step := wpOp_putIf hoj (hfree j oj hoj hji hju hno) (fun cs b => hsel i oi cs b hi) (fun cs b => hsel j oj cs b hoj) hQ hy (H.2 j (ready_mono hj hji))
        refine wpOp_mono (fun a' w' k => ⟨fun h1 h2 => k.2.1 h1 (by rw [getD_set_ne true hne]; exact h2), ih (listed.setIfInBounds j true) a' w' (fun h2 => ?_) (by rw [Array.size_setIfInBounds]; exact hsz) (fun x ox hox hxi hxu hxno => hfree x ox hox hxi ?_ hxno) (by rw [getD_set_ne true hji]; exact hun) k.1 ?_⟩) step
        · rcases Classical.em (j = m) with rfl | hjm
          · exfalso
            rcases Nat.lt_or_ge j listed.size with hl | hl
            · simp [hl] at h2
            · simp [hl] at h2
          · rw [getD_set_ne true hjm] at h2
            exact k.2.1 hjm (by rw [getD_set_ne true hne]; exact h2)
        · rcases Classical.em (j = x) with rfl | hjx
          · exact hju
          · rwa [getD_set_ne true hjx] at hxu
        · rw [Array.setIfInBounds_comm _ _ hji]
          exact k.2.2
  intro n listed a w hS hsz hf hun hy h
  exact main n listed a w hS (by simpa using hsz) (Region.free_spec hi hf) hun hy h
end
end Go.Proofs.Ytfihcgimgngmhaa
/- Literals of one element at this seat; what elements of the document's rows are; an Index whose three slices are stored. No condition. -/
namespace Go.Proofs.Ytfihcgimgngmhaa
set_option maxRecDepth 100000
open Go.RowKit
theorem lit_inst (r s : Int) (w : World) : (Instr.buildSlice 42 1 #[(0, .agg #[.int .i64 r, .int .i64 s])]).run Try.prog w = .ok (.slice (some ⟨w.heap.size, 0, none⟩) 1 1) (w.alloc (.cells [Value.int .i64 r, .int .i64 s].toArray 26)) := by
  have u9 := Try.underlying42
  have z9 := Try.sizeOf26
  go_simp
theorem lit_cmd (c : Cm) (w : World) : (Instr.buildSlice 43 1 #[(0, .agg #[.int .i64 c.k, .int .i64 c.c, .int .i64 c.q, .string c.key, .string c.en, .string c.old, .string c.val])]).run Try.prog w = .ok (.slice (some ⟨w.heap.size, 0, none⟩) 1 1) (w.alloc (.cells c.l.toArray 29)) := by
  have u9 := Try.underlying43
  have z9 := Try.sizeOf29
  unfold Cm.l
  go_simp
theorem lit_int (n : Int) (w : World) : (Instr.buildSlice 44 1 #[(0, .int .i64 n)]).run Try.prog w = .ok (.slice (some ⟨w.heap.size, 0, none⟩) 1 1) (w.alloc (.cells [Value.int .i64 n].toArray 3)) := by
  have u9 := Try.underlying44
  have z9 := Try.sizeOf3
  go_simp
theorem elm_inst : ElM 42 26 2 := ⟨_, _, _, rfl, rfl, rfl, rfl, rfl, rfl, by decide⟩
theorem elm_cmd : ElM 43 29 7 := ⟨_, _, _, rfl, rfl, rfl, rfl, rfl, rfl, by decide⟩
theorem elm_int : ElM 44 3 1 := ⟨_, _, _, rfl, rfl, rfl, rfl, rfl, rfl, by decide⟩
theorem c_l_cells (c : Cm) : ∀ u ∈ c.l, u.oneCell' = true := fun u hu => by
  unfold Cm.l at hu
  simp at hu
  rcases hu with rfl | rfl | rfl | rfl | rfl | rfl | rfl <;> rfl
theorem Rw.far {base sz : Nat} {e : TypeId} {w w' : World} {v : Value} {xs : List (List Value)} {o : Option Nat} (h : Rw base e sz w v xs) (hg : w.grownBy w' o) (hn : o ≠ v.ownBlock) : Rw base e sz w' v xs := World.ownsRow.kept h hg (.inr (Ne.symm hn))
/-- The three slices, stored one behind the other. -/
theorem Rx.put3 {base g : Nat} {w : World} {vL vC vS q1 q2 q3 : Value} {x : Ix} {k : List En} (hr : Row w g 46 (ixC vL vC vS x.d)) (h1 : Rw base 26 2 w q1 (isV k)) (h2 : Rw base 29 7 w q2 (csV k)) (h3 : Rw base 3 1 w q3 (qsV k)) (hd : x.d.length = 7) :
    Rx base (((w.setCell ⟨g, 0, none⟩ q1).setCell ⟨g, 1, none⟩ q2).setCell ⟨g, 2, none⟩ q3) g q1 q2 q3 ⟨k, x.d⟩ ∧ w.grownBy (((w.setCell ⟨g, 0, none⟩ q1).setCell ⟨g, 1, none⟩ q2).setCell ⟨g, 2, none⟩ q3) (some g) := by
  have z := ((hr.put 0 q1).put 1 q2).put 2 q3
  rw [ixC_put0, ixC_put1, ixC_put2] at z
  have hg := grown_put (grown_put (grown_put (grown_refl w (some g)) 0 q1) 1 q2) 2 q3
  exact ⟨⟨z, h1.far hg (rw_off h1 hr (by decide)), h2.far hg (rw_off h2 hr (by decide)), h3.far hg (rw_off h3 hr (by decide)), hd⟩, hg⟩
end Go.Proofs.Ytfihcgimgngmhaa
/- While the document's Attr goes on. No condition: no walk. -/
namespace Go.Proofs.Ytfihcgimgngmhaa
set_option maxRecDepth 100000
open Go.RowKit
theorem cA_set0 (m v : Int) (l : List Int) : (cA (m :: l)).setIfInBounds 0 (.int .i64 v) = cA (v :: l) := by unfold cA cellsR; simp
theorem cA_set (m v : Int) (l : List Int) (k : Nat) : (cA (m :: l)).setIfInBounds (1 + k) (.int .i64 v) = cA (m :: l.set k v) := by
  unfold cA cellsR
  rw [Nat.add_comm, List.setIfInBounds_toArray, List.map_cons, List.set_cons_succ, List.map_cons, List.map_set]
theorem ix_cons (m : Int) (l : List Int) (k : Nat) : ix (m :: l) (1 + k) = ix l k := by unfold ix; rw [Nat.add_comm]; rfl
theorem rows_ne {w : World} {g h : Nat} {t u : TypeId} {xs ys : Array Value} (a : Row w g t xs) (b : Row w h u ys) (hne : t ≠ u) : g ≠ h := by
  rintro rfl
  unfold Row at a b
  rw [a] at b
  injection b with b
  injection b with _ h2 _
  exact hne h2
/-- Attr goes on: what it was asked, the Index, the answer so far. -/
structure Ra (base : Nat) (w wr : World) (g : Nat) (vL vC vS : Value) (x : Ix) (r s : Int) (c : Cm) (a : Int × List Int) : Prop where
  low : Below w.heap.size w wr
  rx : Rx base wr g vL vC vS x
  bi : Row wr w.heap.size 26 #[.int .i64 r, .int .i64 s]
  bc : Row wr (w.heap.size + 1) 29 #[.int .i64 c.k, .int .i64 c.c, .int .i64 c.q, .string c.key, .string c.en, .string c.old, .string c.val]
  br : Row wr (w.heap.size + 2) 34 (cA zero8)
  ba : Row wr (w.heap.size + 3) 34 (cA (a.1 :: a.2))
  len : a.2.length = 7
section
variable {base g : Nat} {w wr wx : World} {vL vC vS : Value} {x : Ix} {r s : Int} {c : Cm} {a a' : Int × List Int}
theorem Ra.below (h : Ra base w wr g vL vC vS x r s c a) (hb : Below wr.heap.size wr wx) : Ra base w wx g vL vC vS x r s c a :=
  ⟨kept_trans h.low hb, h.rx.below hb, h.bi.below hb h.bi.lt, h.bc.below hb h.bc.lt, h.br.below hb h.br.lt, h.ba.below hb h.ba.lt, h.len⟩
theorem Ra.drew (h : Ra base w wr g vL vC vS x r s c a) : Ra base w wr.drew g vL vC vS x r s c a := h.below (kept_drewN (kept_refl wr) 1)
theorem Ra.put (h : Ra base w wr g vL vC vS x r s c a) (i : Nat) (v : Value) (he : (cA (a.1 :: a.2)).setIfInBounds i v = cA (a'.1 :: a'.2)) (hl : a'.2.length = 7) : Ra base w (wr.setCell ⟨w.heap.size + 3, i, none⟩ v) g vL vC vS x r s c a' := by
  have hg := grown_put (grown_refl wr (some (w.heap.size + 3))) i v
  exact ⟨h.low.setCell (by show w.heap.size ≤ w.heap.size + 3; omega) v,
    ⟨h.rx.row.grown hg (fun e => rows_ne h.rx.row h.ba (by decide) (Option.some.inj e)), h.rx.rl.far hg (rw_off h.rx.rl h.ba (by decide)), h.rx.rc.far hg (rw_off h.rx.rc h.ba (by decide)), h.rx.rs.far hg (rw_off h.rx.rs h.ba (by decide)), h.rx.d7⟩,
    h.bi.grown hg (by simp), h.bc.grown hg (by simp), h.br.grown hg (by simp), he ▸ h.ba.put i v, hl⟩
theorem Ra.put0 (h : Ra base w wr g vL vC vS x r s c a) (v : Int) : Ra base w (wr.setCell ⟨w.heap.size + 3, 0, none⟩ (.int .i64 v)) g vL vC vS x r s c (v, a.2) := h.put 0 _ (cA_set0 _ _ _) h.len
theorem Ra.putk (h : Ra base w wr g vL vC vS x r s c a) (k : Nat) (v : Int) : Ra base w (wr.setCell ⟨w.heap.size + 3, 1 + k, none⟩ (.int .i64 v)) g vL vC vS x r s c (a.1, a.2.set k v) := h.put (1 + k) _ (cA_set _ _ _ _) (by rw [List.length_set]; exact h.len)
theorem Ra.at0 (h : Ra base w wr g vL vC vS x r s c a) : wr.cell? ⟨w.heap.size + 3, 0, none⟩ = some (.int .i64 a.1) := row_cA h.ba 0 (by simp)
theorem Ra.atk (h : Ra base w wr g vL vC vS x r s c a) {k : Nat} (hk : k < 7) : wr.cell? ⟨w.heap.size + 3, 1 + k, none⟩ = some (.int .i64 (ix a.2 k)) := by
  have := row_cA h.ba (1 + k) (by rw [List.length_cons, h.len]; omega)
  rwa [ix_cons] at this
end
theorem Ra.start {base g : Nat} {w : World} {vL vC vS : Value} {x : Ix} (h : Rx base w g vL vC vS x) (r s : Int) (c : Cm) :
    Ra base w ((((w.alloc (.cells #[.int .i64 r, .int .i64 s] 26)).alloc (.cells #[.int .i64 c.k, .int .i64 c.c, .int .i64 c.q, .string c.key, .string c.en, .string c.old, .string c.val] 29)).alloc (.cells (cA zero8) 34)).alloc (.cells (cA zero8) 34)) g vL vC vS x r s c (0, [0, 0, 0, 0, 0, 0, 0]) := by
  have hb := kept_alloc (kept_alloc (kept_alloc (kept_alloc (kept_refl w) (.cells #[.int .i64 r, .int .i64 s] 26)) (.cells #[.int .i64 c.k, .int .i64 c.c, .int .i64 c.q, .string c.key, .string c.en, .string c.old, .string c.val] 29)) (.cells (cA zero8) 34)) (.cells (cA zero8) 34)
  refine ⟨hb, h.below hb, (((Row.new w _ _).alloc _).alloc _).alloc _, ?_, ?_, ?_, rfl⟩
  · have h1 := ((Row.new (w.alloc (.cells #[.int .i64 r, .int .i64 s] 26)) 29 #[.int .i64 c.k, .int .i64 c.c, .int .i64 c.q, .string c.key, .string c.en, .string c.old, .string c.val]).alloc (.cells (cA zero8) 34)).alloc (.cells (cA zero8) 34)
    have hs : (w.alloc (.cells #[.int .i64 r, .int .i64 s] 26)).heap.size = w.heap.size + 1 := by simp
    rwa [hs] at h1
  · have h1 := (Row.new ((w.alloc (.cells #[.int .i64 r, .int .i64 s] 26)).alloc (.cells #[.int .i64 c.k, .int .i64 c.c, .int .i64 c.q, .string c.key, .string c.en, .string c.old, .string c.val] 29)) 34 (cA zero8)).alloc (.cells (cA zero8) 34)
    have hs : ((w.alloc (.cells #[.int .i64 r, .int .i64 s] 26)).alloc (.cells #[.int .i64 c.k, .int .i64 c.c, .int .i64 c.q, .string c.key, .string c.en, .string c.old, .string c.val] 29)).heap.size = w.heap.size + 2 := by simp
    rwa [hs] at h1
  · have h1 := Row.new (((w.alloc (.cells #[.int .i64 r, .int .i64 s] 26)).alloc (.cells #[.int .i64 c.k, .int .i64 c.c, .int .i64 c.q, .string c.key, .string c.en, .string c.old, .string c.val] 29)).alloc (.cells (cA zero8) 34)) 34 (cA zero8)
    have hs : (((w.alloc (.cells #[.int .i64 r, .int .i64 s] 26)).alloc (.cells #[.int .i64 c.k, .int .i64 c.c, .int .i64 c.q, .string c.key, .string c.en, .string c.old, .string c.val] 29)).alloc (.cells (cA zero8) 34)).heap.size = w.heap.size + 3 := by simp
    rw [hs] at h1
    exact h1
/-- What stands behind k rounds of the last loop. -/
def fink (d : List Int) (r : Int) (a : List Int) (k : Nat) : List Int := (List.range 7).map fun i => if i < k then cutI d r i (ix a i) else ix a i
theorem fink_len (d : List Int) (r : Int) (a : List Int) (k : Nat) : (fink d r a k).length = 7 := len_map7 _
theorem fink_0 (d : List Int) (r : Int) {a : List Int} (h : a.length = 7) : fink d r a 0 = a := by
  refine List.ext_getElem (by rw [fink_len, h]) fun i h1 h2 => ?_
  rw [← ix_lt _ h1, ← ix_lt _ h2, fink, ix_map7 _ (by rw [h] at h2; exact h2), if_neg (Nat.not_lt_zero _)]
theorem fink_at (d : List Int) (r : Int) (a : List Int) {k : Nat} (hk : k < 7) : ix (fink d r a k) k = ix a k := by rw [fink, ix_map7 _ hk, if_neg (Nat.lt_irrefl _)]
theorem fink_step (d : List Int) (r : Int) (a : List Int) (k : Nat) : (fink d r a k).set k (cutI d r k (ix a k)) = fink d r a (k + 1) := by
  refine List.ext_getElem (by rw [List.length_set, fink_len, fink_len]) fun i h1 h2 => ?_
  have hi : i < 7 := by rw [fink_len] at h2; exact h2
  rw [List.getElem_set]
  have e2 : (fink d r a (k + 1))[i]'h2 = if i < k + 1 then cutI d r i (ix a i) else ix a i := by rw [← ix_lt _ h2, fink, ix_map7 _ hi]
  rw [e2]
  by_cases hik : k = i
  · subst hik
    rw [if_pos rfl, if_pos (by omega)]
  · rw [if_neg hik, ← ix_lt _ (by rw [fink_len]; exact hi), fink, ix_map7 _ hi]
    by_cases h3 : i < k
    · rw [if_pos h3, if_pos (by omega)]
    · rw [if_neg h3, if_neg (by omega)]
theorem fink_same (d : List Int) (r : Int) (a : List Int) {k : Nat} (hk : k < 7) (h : (k : Int) = r) : fink d r a (k + 1) = fink d r a k := by
  have e := fink_step d r a k
  rw [← e]
  refine List.ext_getElem (by rw [List.length_set]) fun i h1 h2 => ?_
  rw [List.getElem_set]
  by_cases hik : k = i
  · subst hik
    rw [if_pos rfl, ← ix_lt _ h2, fink_at _ _ _ hk]
    unfold cutI
    rw [if_pos h]
  · rw [if_neg hik]
/-- The answer's own row. -/
def ownL (r s : Int) (a : List Int) : List Int := if rightI r s = true then a.set r.toNat (max (ix a r.toNat) (s - 1)) else a
theorem ownL_len (r s : Int) (a : List Int) : (ownL r s a).length = a.length := by unfold ownL; split <;> simp
theorem ownL_ix (r s : Int) {a : List Int} (h : a.length = 7) {k : Nat} (hk : k < 7) : ix (ownL r s a) k = ownI r s k (ix a k) := by
  unfold ownL ownI
  by_cases hr : rightI r s = true
  · obtain ⟨h0, h7, _, _⟩ := rightI_is hr
    rw [if_pos hr, if_pos hr]
    by_cases hk2 : (k : Int) = r
    · subst hk2
      rw [if_pos rfl, Int.toNat_natCast, ix_lt _ (by rw [List.length_set, h]; exact hk), List.getElem_set, if_pos rfl]
    · rw [if_neg hk2, ix_set_ne _ _ (by omega)]
  · rw [if_neg hr, if_neg hr]
    split <;> rfl
theorem fink_7 (d : List Int) (r s : Int) {a : List Int} (h : a.length = 7) : fink d r (ownL r s a) 7 = finI d r s a := by
  unfold fink finI
  refine List.map_congr_left fun i hi => ?_
  have hi := List.mem_range.1 hi
  rw [if_pos hi, ownL_ix r s h hi]
/-- What stands at place j, the blocks told. -/
theorem Rx.here {base g gL gC gS n a b c : Nat} {w : World} {x : Ix} (h : Rx base w g (.slice (some ⟨gL, 0, none⟩) n a) (.slice (some ⟨gC, 0, none⟩) n b) (.slice (some ⟨gS, 0, none⟩) n c) x) {j : Nat} {e : En} (he : x.k[j]? = some e) :
    (w.cell? ⟨gL, j * 2, none⟩ = some (.int .i64 e.r) ∧ w.cell? ⟨gL, j * 2 + 1, none⟩ = some (.int .i64 e.s)) ∧ (w.cell? ⟨gC, j * 7, none⟩ = some (.int .i64 e.c.k) ∧ w.cell? ⟨gC, j * 7 + 1, none⟩ = some (.int .i64 e.c.c) ∧ w.cell? ⟨gC, j * 7 + 2, none⟩ = some (.int .i64 e.c.q) ∧ w.cell? ⟨gC, j * 7 + 3, none⟩ = some (.string e.c.key) ∧ w.cell? ⟨gC, j * 7 + 4, none⟩ = some (.string e.c.en) ∧ w.cell? ⟨gC, j * 7 + 5, none⟩ = some (.string e.c.old) ∧ w.cell? ⟨gC, j * 7 + 6, none⟩ = some (.string e.c.val)) ∧ w.cell? ⟨gS, j, none⟩ = some (.int .i64 e.q) := by
  obtain ⟨_, _, _, e1, e2, e3, h1, h2, h3⟩ := h.at_ he
  cases e1
  cases e2
  cases e3
  have z : ∀ i, 0 + j * 7 + i = j * 7 + i := fun i => by omega
  obtain ⟨c0, c1, c2, c3, c4, c5, c6⟩ := h2
  simp only [z] at c1 c2 c3 c4 c5 c6
  rw [Nat.zero_add] at c0
  exact ⟨h1, ⟨c0, c1, c2, c3, c4, c5, c6⟩, h3⟩
theorem hang_not {r s : Int} {c : Cm} {a : Int × List Int} {e : En} (h : hits r s c e = false) : hang r s c a e = a := by unfold hang; rw [if_neg (by rw [h]; simp)]
theorem hang_yes {r s : Int} {c : Cm} {a : Int × List Int} {e : En} (h : hits r s c e = true) : hang r s c a e = (max a.1 (e.q + 1), a.2.set e.r.toNat (max (ix a.2 e.r.toNat) e.s)) := by unfold hang; rw [if_pos h]
end Go.Proofs.Ytfihcgimgngmhaa
