/- A region that draws its order, whose operations read and whose calls make memory: one walk for all orders, in any class of worlds. No condition: nothing here speaks of a program. -/
import Derived.Test.YtjadbppcjndmlaaBlk
import Derived.Deep.Quiet
import Derived.Deep.QuietTactic
namespace Go.Proofs.Ytjadbppcjndmlaa
open Go.RowKit
/-- A world in which S holds. -/
structure Sp (S : World → Prop) where
  w : World
  ok : S w
theorem wp_region_sp {P : Program} {id : Nat} {Q : Exit → Act → World → Prop} {a : Act} {w : World} {l : List Oper} (S : World → Prop) (hm : P.follows .mixedOrders = true) (hB : Region.lexB .any l.toArray = true) (h0 : S w.drew)
    (h : wpQuiet P l.toArray (fun w' => ∃ k : Sp S, w' = k.w) (fun a' => ∀ k : Sp S, Q .normal a' k.w) l a) : (Code.region id l.toArray true).wp P Q a w :=
  wp_region_quiet (C := fun w' => ∃ k : Sp S, w' = k.w) hm hB ⟨⟨w.drew, h0⟩, rfl⟩ (by simpa using h)
/-- Cut behind n operations. -/
theorem wpQuiet_cut {P : Program} {ops : Array Oper} {C : World → Prop} {Q R : Act → Prop} : ∀ (n : Nat) (l : List Oper) (a : Act), wpQuiet P ops C R (l.take n) a → (∀ a', R a' → wpQuiet P ops C Q (l.drop n) a') → wpQuiet P ops C Q l a
  | 0, _, _, h, hr => hr _ h
  | _ + 1, [], _, h, hr => hr _ h
  | n + 1, o :: l, a, h, hr => by
    have h' : if Region.wanted o (yielded ops a.tmps) then o.quiet P a C (wpQuiet P ops C R (l.take n)) else wpQuiet P ops C R (l.take n) (a.put o.dst undef) := h
    show if Region.wanted o (yielded ops a.tmps) then o.quiet P a C (wpQuiet P ops C Q l) else wpQuiet P ops C Q l (a.put o.dst undef)
    split
    · rename_i hw
      rw [if_pos hw] at h'
      exact Oper.quiet_mono (fun a' k => wpQuiet_cut n l a' k hr) h'
    · rename_i hw
      rw [if_neg hw] at h'
      exact wpQuiet_cut n l _ h' hr
theorem sp_call {P : Program} {f : FuncId} {args : Array Value} {v : Value} {S : World → Prop} (step : ∀ w w', S w → Below w.heap.size w w' → S w') (k : Sp S) (h : Calls P f args k.w fun e w' => e = .returned v ∧ Below k.w.heap.size k.w w') :
    Calls P f args k.w fun e w' => e = .returned v ∧ ∃ k : Sp S, w' = k.w := h.mono fun _ w' ⟨he, hb⟩ => ⟨he, ⟨w', step _ _ k.ok hb⟩, rfl⟩
theorem below_same {P : Program} {f : FuncId} {args : Array Value} {v : Value} {w : World} (h : Calls P f args w fun e w' => e = .returned v ∧ w = w') : Calls P f args w fun e w' => e = .returned v ∧ Below w.heap.size w w' :=
  h.mono fun _ _ ⟨he, e⟩ => ⟨he, by subst e; exact Below.refl _ _⟩
end Go.Proofs.Ytjadbppcjndmlaa
