/- A region that draws its order and ends in one operation that waits for all others (a store): what its loads read need hold only till then. No condition: nothing here speaks of a program. -/
import Derived.Test.YtjadbppcjndmlaaBlk
import Derived.Deep.RegionHeld3
namespace Go.Proofs.Ytjadbppcjndmlaa
open Go.RowKit
section
variable {P : Program} {ops : Array Oper} {Q : Exit → Act → World → Prop} {md : Region.Mode} {S : World → Prop} {m : Nat}
/-- Does number m wait for number i itself? -/
def waits (md : Region.Mode) (ops : Array Oper) (m i : Nat) : Bool :=
  match ops[m]? with
  | some o => o.after.toList.any fun e => Region.binds md e && e.on == i
  | none => false
theorem waits_spec {i : Nat} (h : waits md ops m i = true) {listed : Array Bool} (hr : m ∈ Region.ready md ops listed) : listed.getD i false = true := by
  obtain ⟨_, o, ho, hall⟩ := mem_ready.1 hr
  unfold waits at h
  rw [ho] at h
  obtain ⟨e, he, h2⟩ := List.any_eq_true.1 h
  rw [Bool.and_eq_true, beq_iff_eq] at h2
  rw [← h2.2]
  exact hall e (Array.mem_toList_iff.1 he) h2.1
theorem getD_differ {listed : Array Bool} {i : Nat} (h : listed.getD i true = false) (k : listed.getD i false = true) : False := by
  rcases Nat.lt_or_ge i listed.size with h1 | h1
  · simp [h1] at h k; rw [h] at k; cases k
  · simp [Array.getElem?_eq_none h1] at k
/-- In whatever order; behind each operation but number m the condition S holds. -/
def anyT (P : Program) (md : Region.Mode) (ops : Array Oper) (Q : Exit → Act → World → Prop) (S : World → Prop) (m : Nat) : Nat → Array Bool → Act → World → Prop
  | 0, listed, a, w => wpAny P md ops Q 0 listed a w
  | n + 1, listed, a, w => (Region.ready md ops listed = [] → Q .normal a w) ∧
    ∀ i, i ∈ Region.ready md ops listed → wpOp P ops Q i (fun a' w' => (i ≠ m → S w') ∧ anyT P md ops Q S m n (listed.setIfInBounds i true) a' w') a w
theorem any_of_T : ∀ {n : Nat} {listed : Array Bool} {a : Act} {w : World}, anyT P md ops Q S m n listed a w → wpAny P md ops Q n listed a w
  | 0, _, _, _, h => h
  | _ + 1, _, _, _, h => ⟨h.1, fun i hi => wpOp_mono (fun _ _ k => any_of_T k.2) (h.2 i hi)⟩
/-- One that reads, and for which number m waits, may go first. -/
theorem anyT_take {i : Nat} {oi : Oper} {v : Value} (hi : ops[i]? = some oi) (hs : Region.noSelect ops = true) (hw : waits md ops m i = true) (hQ : ∀ c a w, Q (.panic c) (a.put oi.dst v) w → Q (.panic c) a w) :
    ∀ {n : Nat} {listed : Array Bool} {a : Act} {w : World}, Region.free md ops listed i = true → (Region.ready md ops listed).contains i = true → YieldsIf P ops S oi v a → S w →
      anyT P md ops Q S m n (listed.setIfInBounds i true) (a.put oi.dst v) w → anyT P md ops Q S m (n + 1) listed a w := by
  have hsel := Region.noSelect_spec hs
  have main : ∀ (n : Nat) (listed : Array Bool) (a : Act) (w : World),
      (∀ j oj, ops[j]? = some oj → j ≠ i → listed.getD j true = false → (∀ e ∈ oj.after, Region.binds md e = true → e.on ≠ i) → oi.apart ops oj = true) →
      i ∈ Region.ready md ops listed → YieldsIf P ops S oi v a → S w → anyT P md ops Q S m n (listed.setIfInBounds i true) (a.put oi.dst v) w → anyT P md ops Q S m (n + 1) listed a w := by
    intro n
    induction n with
    | zero =>
      intro listed a w _ hr hy hS H
      have H' : Region.ready md ops (listed.setIfInBounds i true) = [] ∧ Q .normal (a.put oi.dst v) w := H
      refine ⟨fun h0 => absurd (h0 ▸ hr) (by simp), fun j hj => ?_⟩
      rcases Classical.em (j = i) with rfl | hji
      · exact hy.wpOp hi hS ⟨fun _ => hS, H⟩
      · exact absurd (H'.1 ▸ ready_mono hj hji) (by simp)
    | succ n ih =>
      intro listed a w hfree hr hy hS H
      refine ⟨fun h0 => absurd (h0 ▸ hr) (by simp), fun j hj => ?_⟩
      rcases Classical.em (j = i) with rfl | hji
      · exact hy.wpOp hi hS ⟨fun _ => hS, H⟩
      · have hun := (mem_ready.1 hr).1
        have hjm : j ≠ m := fun e => getD_differ hun (waits_spec hw (e ▸ hj))
        obtain ⟨hju, oj, hoj, hall⟩ := mem_ready.1 hj
        have hno : ∀ e ∈ oj.after, Region.binds md e = true → e.on ≠ i := fun e he hb k => getD_differ hun (by rw [← k]; exact hall e he hb)
        have step := wpOp_putIf hoj (hfree j oj hoj hji hju hno) (fun cs b => hsel i oi cs b hi) (fun cs b => hsel j oj cs b hoj) hQ hy (H.2 j (ready_mono hj hji))
        refine wpOp_mono (fun a' w' k => ⟨k.2.1, ih (listed.setIfInBounds j true) a' w' (fun x ox hox hxi hxu hxno => hfree x ox hox hxi ?_ hxno) (ready_mono hr (Ne.symm hji)) k.1 (k.2.1 hjm) ?_⟩) step
        · rcases Classical.em (j = x) with rfl | hjx
          · exact hju
          · rwa [getD_set_ne true hjx] at hxu
        · rw [Array.setIfInBounds_comm _ _ hji]
          exact k.2.2
  intro n listed a w hf hr hy hS h
  exact main n listed a w (Region.free_spec hi hf) (by simpa using hr) hy hS h
theorem wp_region_T {id : Nat} {a : Act} {w : World} (m : Nat) (S : World → Prop) (hm : P.follows .mixedOrders = true) (h : anyT P .any ops Q S m ops.size (Array.replicate ops.size false) a w.drew) : (Code.region id ops true).wp P Q a w :=
  wp_region_any hm (any_of_T h)
theorem anyT_done {n : Nat} {listed : Array Bool} {a : Act} {w : World} (hr : Region.ready md ops listed = []) (h : Q .normal a w) : anyT P md ops Q S m n listed a w := by
  cases n with
  | zero => exact ⟨hr, h⟩
  | succ n => exact ⟨fun _ => h, fun i hi => by rw [hr] at hi; cases hi⟩
theorem stepT {n i : Nat} {o : Oper} {listed : Array Bool} {a : Act} {w : World} (ho : ops[i]? = some o)
    (h : ∀ K' : Act → World → Prop, Shut (∀ a w, (i ≠ m → S w) → anyT P md ops Q S m n (listed.setIfInBounds i true) a w → K' a w) → if Region.wanted o (yielded ops a.tmps) = true then Oper.wp P o a w K' Q else K' (a.put o.dst undef) w) :
    wpOp P ops Q i (fun a' w' => (i ≠ m → S w') ∧ anyT P md ops Q S m n (listed.setIfInBounds i true) a' w') a w :=
  wpOp_step ho fun K' hK => h K' fun a w h1 h2 => hK a w ⟨h1, h2⟩
theorem anyT_one {n i : Nat} {o : Oper} {listed : Array Bool} {a : Act} {w : World} (hr : Region.ready md ops listed = [i]) (ho : ops[i]? = some o)
    (h : ∀ K' : Act → World → Prop, Shut (∀ a w, (i ≠ m → S w) → anyT P md ops Q S m n (listed.setIfInBounds i true) a w → K' a w) → if Region.wanted o (yielded ops a.tmps) = true then Oper.wp P o a w K' Q else K' (a.put o.dst undef) w) :
    anyT P md ops Q S m (n + 1) listed a w :=
  ⟨fun h0 => (by rw [h0] at hr; cases hr), fun j hj => (by
    rw [hr] at hj
    obtain rfl := List.mem_singleton.1 hj
    exact stepT ho h)⟩
theorem anyT_two {n i j : Nat} {o p : Oper} {listed : Array Bool} {a : Act} {w : World} (hr : Region.ready md ops listed = [i, j]) (ho : ops[i]? = some o) (hp : ops[j]? = some p)
    (h : ∀ K' : Act → World → Prop, Shut (∀ a w, (i ≠ m → S w) → anyT P md ops Q S m n (listed.setIfInBounds i true) a w → K' a w) → if Region.wanted o (yielded ops a.tmps) = true then Oper.wp P o a w K' Q else K' (a.put o.dst undef) w)
    (k : ∀ K' : Act → World → Prop, Shut (∀ a w, (j ≠ m → S w) → anyT P md ops Q S m n (listed.setIfInBounds j true) a w → K' a w) → if Region.wanted p (yielded ops a.tmps) = true then Oper.wp P p a w K' Q else K' (a.put p.dst undef) w) :
    anyT P md ops Q S m (n + 1) listed a w :=
  ⟨fun h0 => (by rw [h0] at hr; cases hr), fun x hx => (by
    rw [hr] at hx
    rcases List.mem_cons.1 hx with rfl | hx
    · exact stepT ho h
    · obtain rfl := List.mem_singleton.1 hx
      exact stepT hp k)⟩
end
end Go.Proofs.Ytjadbppcjndmlaa
