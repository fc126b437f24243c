/- A region that draws its order and ends in one operation, number m, that waits for the others: what its loads read need hold only till number m is done; what may come behind m need not keep it. No condition: nothing here speaks of a program. -/
import Derived.Test.YtahfpncfkcfogaaGa
namespace Go.Proofs.Ytahfpncfkcfogaa
open Go.RowKit
section
variable {P : Program} {ops : Array Oper} {Q : Exit → Act → World → Prop} {md : Region.Mode} {S : World → Prop} {m : Nat}
/-- In whatever order; behind each operation but number m the condition S holds. -/
def anyU (P : Program) (md : Region.Mode) (ops : Array Oper) (Q : Exit → Act → World → Prop) (S : World → Prop) (m : Nat) : Nat → Array Bool → Act → World → Prop
  | 0, listed, a, w => wpAny P md ops Q 0 listed a w
  | n + 1, listed, a, w => (Region.ready md ops listed = [] → Q .normal a w) ∧
    ∀ i, i ∈ Region.ready md ops listed → wpOp P ops Q i (fun a' w' => (i ≠ m → listed.getD m true = false → S w') ∧ anyU P md ops Q S m n (listed.setIfInBounds i true) a' w') a w
theorem any_of_U : ∀ {n : Nat} {listed : Array Bool} {a : Act} {w : World}, anyU P md ops Q S m n listed a w → wpAny P md ops Q n listed a w
  | 0, _, _, _, h => h
  | _ + 1, _, _, _, h => ⟨h.1, fun i hi => wpOp_mono (fun _ _ k => any_of_U k.2) (h.2 i hi)⟩
/-- One that reads, and for which number m waits, may go first. -/
theorem anyU_take {i : Nat} {oi : Oper} {v : Value} (hi : ops[i]? = some oi) (hs : Region.noSelect ops = true) (hw : waits md ops m i = true) (him : (i == m) = false) (hQ : ∀ c a w, Q (.panic c) (a.put oi.dst v) w → Q (.panic c) a w) :
    ∀ {n : Nat} {listed : Array Bool} {a : Act} {w : World}, listed.getD m true = false → Region.free md ops listed i = true → (Region.ready md ops listed).contains i = true → YieldsIf P ops S oi v a → S w →
      anyU P md ops Q S m n (listed.setIfInBounds i true) (a.put oi.dst v) w → anyU P md ops Q S m (n + 1) listed a w := by
  have hsel := Region.noSelect_spec hs
  have hne : i ≠ m := fun e => by subst e; simp at him
  have main : ∀ (n : Nat) (listed : Array Bool) (a : Act) (w : World), listed.getD m true = false →
      (∀ j oj, ops[j]? = some oj → j ≠ i → listed.getD j true = false → (∀ e ∈ oj.after, Region.binds md e = true → e.on ≠ i) → oi.apart ops oj = true) →
      i ∈ Region.ready md ops listed → YieldsIf P ops S oi v a → S w → anyU P md ops Q S m n (listed.setIfInBounds i true) (a.put oi.dst v) w → anyU P md ops Q S m (n + 1) listed a w := by
    intro n
    induction n with
    | zero =>
      intro listed a w hlm _ hr hy hS H
      have H' : Region.ready md ops (listed.setIfInBounds i true) = [] ∧ Q .normal (a.put oi.dst v) w := H
      refine ⟨fun h0 => absurd (h0 ▸ hr) (by simp), fun j hj => ?_⟩
      rcases Classical.em (j = i) with rfl | hji
      · exact hy.wpOp hi hS ⟨fun _ _ => hS, H⟩
      · exact absurd (H'.1 ▸ ready_mono hj hji) (by simp)
    | succ n ih =>
      intro listed a w hlm hfree hr hy hS H
      refine ⟨fun h0 => absurd (h0 ▸ hr) (by simp), fun j hj => ?_⟩
      rcases Classical.em (j = i) with rfl | hji
      · exact hy.wpOp hi hS ⟨fun _ _ => hS, H⟩
      · have hun := (mem_ready.1 hr).1
        have hjm : j ≠ m := fun e => getD_differ hun (waits_spec hw (e ▸ hj))
        obtain ⟨hju, oj, hoj, hall⟩ := mem_ready.1 hj
        have hno : ∀ e ∈ oj.after, Region.binds md e = true → e.on ≠ i := fun e he hb k => getD_differ hun (by rw [← k]; exact hall e he hb)
        have step := wpOp_putIf hoj (hfree j oj hoj hji hju hno) (fun cs b => hsel i oi cs b hi) (fun cs b => hsel j oj cs b hoj) hQ hy (H.2 j (ready_mono hj hji))
        refine wpOp_mono (fun a' w' k => ⟨fun h1 _ => k.2.1 h1 (by rw [getD_set_ne true hne]; exact hlm), ih (listed.setIfInBounds j true) a' w' (by rw [getD_set_ne true hjm]; exact hlm) (fun x ox hox hxi hxu hxno => hfree x ox hox hxi ?_ hxno) (ready_mono hr (Ne.symm hji)) k.1 (k.2.1 hjm (by rw [getD_set_ne true hne]; exact hlm)) ?_⟩) step
        · rcases Classical.em (j = x) with rfl | hjx
          · exact hju
          · rwa [getD_set_ne true hjx] at hxu
        · rw [Array.setIfInBounds_comm _ _ hji]
          exact k.2.2
  intro n listed a w hlm hf hr hy hS h
  exact main n listed a w hlm (Region.free_spec hi hf) (by simpa using hr) hy hS h
theorem wp_region_U {id : Nat} {a : Act} {w : World} (m : Nat) (S : World → Prop) (hm : P.follows .mixedOrders = true) (h : anyU P .any ops Q S m ops.size (Array.replicate ops.size false) a w.drew) : (Code.region id ops true).wp P Q a w :=
  wp_region_any hm (any_of_U h)
theorem anyU_done {n : Nat} {listed : Array Bool} {a : Act} {w : World} (hr : Region.ready md ops listed = []) (h : Q .normal a w) : anyU P md ops Q S m n listed a w := by
  cases n with
  | zero => exact ⟨hr, h⟩
  | succ n => exact ⟨fun _ => h, fun i hi => by rw [hr] at hi; cases hi⟩
theorem stepU {n i : Nat} {o : Oper} {listed : Array Bool} {a : Act} {w : World} (ho : ops[i]? = some o)
    (h : ∀ K' : Act → World → Prop, Shut (∀ a w, (i ≠ m → listed.getD m true = false → S w) → anyU P md ops Q S m n (listed.setIfInBounds i true) a w → K' a w) → if Region.wanted o (yielded ops a.tmps) = true then Oper.wp P o a w K' Q else K' (a.put o.dst undef) w) :
    wpOp P ops Q i (fun a' w' => (i ≠ m → listed.getD m true = false → S w') ∧ anyU P md ops Q S m n (listed.setIfInBounds i true) a' w') a w :=
  wpOp_step ho fun K' hK => h K' fun a w h1 h2 => hK a w ⟨h1, h2⟩
theorem anyU_one {n i : Nat} {o : Oper} {listed : Array Bool} {a : Act} {w : World} (hr : Region.ready md ops listed = [i]) (ho : ops[i]? = some o)
    (h : ∀ K' : Act → World → Prop, Shut (∀ a w, (i ≠ m → listed.getD m true = false → S w) → anyU P md ops Q S m n (listed.setIfInBounds i true) a w → K' a w) → if Region.wanted o (yielded ops a.tmps) = true then Oper.wp P o a w K' Q else K' (a.put o.dst undef) w) :
    anyU P md ops Q S m (n + 1) listed a w :=
  ⟨fun h0 => (by rw [h0] at hr; cases hr), fun j hj => (by
    rw [hr] at hj
    obtain rfl := List.mem_singleton.1 hj
    exact stepU ho h)⟩
theorem anyU_two {n i j : Nat} {o p : Oper} {listed : Array Bool} {a : Act} {w : World} (hr : Region.ready md ops listed = [i, j]) (ho : ops[i]? = some o) (hp : ops[j]? = some p)
    (h : ∀ K' : Act → World → Prop, Shut (∀ a w, (i ≠ m → listed.getD m true = false → S w) → anyU P md ops Q S m n (listed.setIfInBounds i true) a w → K' a w) → if Region.wanted o (yielded ops a.tmps) = true then Oper.wp P o a w K' Q else K' (a.put o.dst undef) w)
    (k : ∀ K' : Act → World → Prop, Shut (∀ a w, (j ≠ m → listed.getD m true = false → S w) → anyU P md ops Q S m n (listed.setIfInBounds j true) a w → K' a w) → if Region.wanted p (yielded ops a.tmps) = true then Oper.wp P p a w K' Q else K' (a.put p.dst undef) w) :
    anyU P md ops Q S m (n + 1) listed a w :=
  ⟨fun h0 => (by rw [h0] at hr; cases hr), fun x hx => (by
    rw [hr] at hx
    rcases List.mem_cons.1 hx with rfl | hx
    · exact stepU ho h
    · obtain rfl := List.mem_singleton.1 hx
      exact stepU hp k)⟩
theorem anyU_three {n i j k : Nat} {o p q : Oper} {listed : Array Bool} {a : Act} {w : World} (hr : Region.ready md ops listed = [i, j, k]) (ho : ops[i]? = some o) (hp : ops[j]? = some p) (hq : ops[k]? = some q)
    (h : ∀ K' : Act → World → Prop, Shut (∀ a w, (i ≠ m → listed.getD m true = false → S w) → anyU P md ops Q S m n (listed.setIfInBounds i true) a w → K' a w) → if Region.wanted o (yielded ops a.tmps) = true then Oper.wp P o a w K' Q else K' (a.put o.dst undef) w)
    (h2 : ∀ K' : Act → World → Prop, Shut (∀ a w, (j ≠ m → listed.getD m true = false → S w) → anyU P md ops Q S m n (listed.setIfInBounds j true) a w → K' a w) → if Region.wanted p (yielded ops a.tmps) = true then Oper.wp P p a w K' Q else K' (a.put p.dst undef) w)
    (h3 : ∀ K' : Act → World → Prop, Shut (∀ a w, (k ≠ m → listed.getD m true = false → S w) → anyU P md ops Q S m n (listed.setIfInBounds k true) a w → K' a w) → if Region.wanted q (yielded ops a.tmps) = true then Oper.wp P q a w K' Q else K' (a.put q.dst undef) w) :
    anyU P md ops Q S m (n + 1) listed a w :=
  ⟨fun h0 => (by rw [h0] at hr; cases hr), fun x hx => (by
    rw [hr] at hx
    rcases List.mem_cons.1 hx with rfl | hx
    · exact stepU ho h
    · rcases List.mem_cons.1 hx with rfl | hx
      · exact stepU hp h2
      · obtain rfl := List.mem_singleton.1 hx
        exact stepU hq h3)⟩
end
end Go.Proofs.Ytahfpncfkcfogaa
