/- A region that draws its order, cut where just so many of its operations have come up, in whatever order they did. No condition: nothing here speaks of a program. -/
import Derived.Test.YtpngcocmjbkfgaaBlk
import Derived.Deep.RegionHeld3
namespace Go.Proofs.Ytpngcocmjbkfgaa
open Go.RowKit
section
variable {P : Program} {ops : Array Oper} {Q : Exit → Act → World → Prop} {md : Region.Mode} {S : World → Prop} {L : Array Bool} {R : Act → World → Prop}
/-- In whatever order, so many operations; then just those of L have come up, and R holds. -/
def anyC (P : Program) (md : Region.Mode) (ops : Array Oper) (Q : Exit → Act → World → Prop) (S : World → Prop) (L : Array Bool) (R : Act → World → Prop) : Nat → Array Bool → Act → World → Prop
  | 0, listed, a, w => listed = L ∧ R a w
  | n + 1, listed, a, w => Region.ready md ops listed ≠ [] ∧ ∀ i ∈ Region.ready md ops listed, wpOp P ops Q i (fun a' w' => S w' ∧ anyC P md ops Q S L R n (listed.setIfInBounds i true) a' w') a w
theorem wpAnyH_cut {k : Nat} (hR : ∀ a w, R a w → wpAnyH P md ops Q S k L a w) : ∀ {n : Nat} {listed : Array Bool} {a : Act} {w : World}, anyC P md ops Q S L R n listed a w → wpAnyH P md ops Q S (n + k) listed a w
  | 0, _, _, _, ⟨e, h⟩ => by rw [Nat.zero_add, e]; exact hR _ _ h
  | n + 1, _, _, _, ⟨hne, h⟩ => by
    rw [show n + 1 + k = n + k + 1 by omega]
    exact ⟨fun e => absurd e hne, fun i hi => wpOp_mono (fun _ _ ⟨hs, h'⟩ => ⟨hs, wpAnyH_cut hR h'⟩) (h i hi)⟩
def AllC (P : Program) (md : Region.Mode) (ops : Array Oper) (Q : Exit → Act → World → Prop) (S : World → Prop) (L : Array Bool) (R : Act → World → Prop) (n : Nat) (listed : Array Bool) (a : Act) (w : World) (rs : List Nat) : Prop :=
  ∀ i ∈ rs, wpOp P ops Q i (fun a' w' => S w' ∧ anyC P md ops Q S L R n (listed.setIfInBounds i true) a' w') a w
theorem AllC.nil {n : Nat} {listed : Array Bool} {a : Act} {w : World} : AllC P md ops Q S L R n listed a w [] := fun _ h => by cases h
theorem AllC.cons {n : Nat} {listed : Array Bool} {a : Act} {w : World} {i : Nat} {o : Oper} {rs : List Nat} (ho : ops[i]? = some o)
    (h : ∀ K' : Act → World → Prop, Shut (∀ a w, S w → anyC P md ops Q S L R n (listed.setIfInBounds i true) a w → K' a w) → if Region.wanted o (yielded ops a.tmps) = true then Oper.wp P o a w K' Q else K' (a.put o.dst undef) w)
    (hs : AllC P md ops Q S L R n listed a w rs) : AllC P md ops Q S L R n listed a w (i :: rs) := fun j hj => by
  rcases List.mem_cons.1 hj with rfl | hj
  · exact wpOp_step ho (fun K' hK => h K' (fun a w hS hW => hK a w ⟨hS, hW⟩))
  · exact hs j hj
theorem anyC_ready {rs : List Nat} {n : Nat} {listed : Array Bool} {a : Act} {w : World} (hr : Region.ready md ops listed = rs) (hne : rs ≠ []) (h : AllC P md ops Q S L R n listed a w rs) : anyC P md ops Q S L R (n + 1) listed a w :=
  ⟨by rw [hr]; exact hne, by rw [hr]; exact h⟩
theorem anyC_done {listed : Array Bool} {a : Act} {w : World} (e : listed = L) (h : R a w) : anyC P md ops Q S L R 0 listed a w := ⟨e, h⟩
end
/-- What lies in blocks of their own. -/
def Rows (w : World) (l : List (Nat × TypeId × Array Value)) : Prop := ∀ r, r ∈ l → Row w r.1 r.2.1 r.2.2
theorem Rows.below {w w' : World} {l : List (Nat × TypeId × Array Value)} (h : Rows w l) (hb : Below w.heap.size w w') : Rows w' l := fun r hr => (h r hr).below hb (h r hr).lt
theorem Rows.none_ {w : World} : Rows w [] := fun _ h => by cases h
theorem Rows.more {w : World} {l : List (Nat × TypeId × Array Value)} (h : Rows w l) (t : TypeId) (cs : Array Value) : Rows (w.alloc (.cells cs t)) ((w.heap.size, t, cs) :: l) := fun r hr => by
  rcases List.mem_cons.1 hr with rfl | hr
  · exact Row.new w t cs
  · exact (h r hr).alloc _
end Go.Proofs.Ytpngcocmjbkfgaa
