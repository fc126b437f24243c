/- The writers, said for their callers: where the answer lies. Conditions: those of their contracts. -/
import Derived.Test.YtpngcocmjbkfgaaText
import Derived.Test.YtpngcocmjbkfgaaRoom
namespace Go.Proofs.Ytpngcocmjbkfgaa
open Go.RowKit
/-- A slice of these n bytes, in new memory or nowhere. -/
def Made (w : World) (n : Nat) (zs : List Int) (e : Ending) (w' : World) : Prop :=
  ∃ A c, e = .returned (.slice A n c) ∧ n ≤ c ∧ Lies w' A zs ∧ (A = none → c = 0) ∧ Below w.heap.size w w'
theorem made_of {w w' : World} {n : Nat} {zs : List Int} {e : Ending} (h : ∃ v, e = .returned v ∧ w'.ownsRow w.heap.size 5 1 v n (cellsOf zs) ∧ Below w.heap.size w w') : Made w n zs e w' := by
  obtain ⟨v, he, ho, hb⟩ := h
  obtain ⟨A, c, rfl, hA⟩ : ∃ A c, v = .slice A n c ∧ (A = none → c = 0) := by
    rcases ho.2 with ⟨rfl, rfl⟩ | ⟨g, cap, cur, rfl, _⟩
    · exact ⟨none, 0, rfl, fun _ => rfl⟩
    · exact ⟨_, cap, rfl, fun h => by cases h⟩
  exact ⟨A, c, he, (own_len ho).2, Lies.of_own ho, hA, hb⟩
/-- A flag's byte. -/
def flag7 (f : Bool) : List Int := [if f then 1 else 0]
section
variable {A : Option Addr} {n c : Nat} {zs : List Int} {w : World}
theorem num_use (m : Int) (hn : zs.length = n) (hz : Lies w A zs) (hc : A = none → c = 0) (ln : n ≤ 140737488355310) (m0 : -9223372036854775808 ≤ m) (m1 : m ≤ 9223372036854775807) :
    Calls Try.prog 34 #[.slice A n c, .int .i64 m] w (Made w (n + (num7 m).length) (zs ++ num7 m)) := (num_any A n c zs m w hn hz hc ln m0 m1).mono fun _ _ h => made_of h
end
theorem num_nil {m : Int} {ys : List Int} {n : Nat} (w : World) (m0 : -9223372036854775808 ≤ m) (m1 : m ≤ 9223372036854775807) (hy : num7 m = ys) (hn : ys.length = n) :
    Calls Try.prog 34 #[.slice none 0 0, .int .i64 m] w (Made w n ys) := by
  subst hy hn
  have h := num_use (zs := []) (n := 0) (c := 0) m rfl (Lies.none_ (w := w) (A := none)) (fun _ => rfl) (by omega) m0 m1
  rwa [List.nil_append, Nat.zero_add] at h
theorem lit_lies (w : World) {zs : List Int} {cs : Array Value} (h : cs = (cellsOf zs).toArray) : Lies (w.alloc (.cells cs 5)) (some ⟨w.heap.size, 0, none⟩) zs := by
  subst h; exact lies_lit w zs 5 (0, 0)
end Go.Proofs.Ytpngcocmjbkfgaa
