/- What the functions of package span come to. No condition. -/
import Derived.Test.YtmcemijipplkgaaRows
import Derived.Test.YtmcemijipplkgaaStr
import Derived.WalkKit
import Derived.WalkSpells
import Derived.WalkLawsBesides
import Derived.BigQuiet
import Derived.Deep.QuietTactic
namespace Go.Proofs.Ytmcemijipplkgaa
open Go.RowKit
/-- Block g holds a span. -/
structure Two (w : World) (g : Nat) (x y : ByteArray) : Prop where
  c0 : w.cell? ⟨g, 0, none⟩ = some (.string x)
  c1 : w.cell? ⟨g, 1, none⟩ = some (.string y)
  lt : g < w.heap.size
theorem Two.kept {w w' : World} {g : Nat} {x y : ByteArray} (h : Two w g x y) (hb : Below w.heap.size w w') : Two w' g x y :=
  ⟨(hb.cell (p := ⟨g, 0, none⟩) h.lt).trans h.c0, (hb.cell (p := ⟨g, 1, none⟩) h.lt).trans h.c1, Nat.lt_of_lt_of_le h.lt hb.size⟩
theorem Two.drew {w : World} {g : Nat} {x y : ByteArray} (h : Two w g x y) : Two w.drew g x y := ⟨h.c0, h.c1, h.lt⟩
theorem Two.new (w : World) (x y : ByteArray) (t : TypeId) : Two (w.alloc (.cells #[.string x, .string y] t)) w.heap.size x y :=
  ⟨by simp [World.cell?_alloc_new], by simp [World.cell?_alloc_new], by simp⟩
/-- Three spans lie in the call's own memory, and what was there is as it was. -/
structure St (W w : World) (k l m : Nat) (a b c d e f : ByteArray) : Prop where
  one : Two w k a b
  two : Two w l c d
  three : Two w m e f
  old : Below W.heap.size W w
section
variable {W w w' : World} {k l m : Nat} {a b c d e f : ByteArray}
theorem St.drew (h : St W w k l m a b c d e f) : St W w.drew k l m a b c d e f := ⟨h.one.drew, h.two.drew, h.three.drew, h.old.drew⟩
theorem St.step (h : St W w k l m a b c d e f) (g : Below w.heap.size w w') : St W w' k l m a b c d e f := ⟨h.one.kept g, h.two.kept g, h.three.kept g, h.old.trans (g.mono h.old.size)⟩
/-- A call that makes memory leaves the spans. -/
theorem St.call {P : Program} {F : FuncId} {args : Array Value} {v : Value} (h : St W w k l m a b c d e f) (hf : Calls P F args w fun x w' => x = .returned v ∧ Below w.heap.size w w') :
    Calls P F args w fun x w' => x = .returned v ∧ w'.cell? ⟨k, 0, none⟩ = some (.string a) ∧ w'.cell? ⟨k, 1, none⟩ = some (.string b) ∧ w'.cell? ⟨l, 0, none⟩ = some (.string c) ∧ w'.cell? ⟨l, 1, none⟩ = some (.string d) ∧
      w'.cell? ⟨m, 0, none⟩ = some (.string e) ∧ w'.cell? ⟨m, 1, none⟩ = some (.string f) ∧ St W w' k l m a b c d e f :=
  hf.mono fun _ _ ⟨he, hb⟩ => have g := h.step hb; ⟨he, g.one.c0, g.one.c1, g.two.c0, g.two.c1, g.three.c0, g.three.c1, g⟩
end
theorem old_call {P : Program} {F : FuncId} {args : Array Value} {v : Value} {W w : World} (h : Below W.heap.size W w) (hf : Calls P F args w fun x w' => x = .returned v ∧ Below w.heap.size w w') :
    Calls P F args w fun x w' => x = .returned v ∧ Below W.heap.size W w' := hf.mono fun _ _ ⟨he, hb⟩ => ⟨he, h.trans (hb.mono h.size)⟩
/-- Two spans that were just laid. -/
theorem St.start (W : World) (a b c d : ByteArray) (t : TypeId) : St W ((W.alloc (.cells #[.string a, .string b] t)).alloc (.cells #[.string c, .string d] t)) W.heap.size (W.heap.size + 1) (W.heap.size + 1) a b c d c d := by
  have h1 := (Two.new W a b t).kept ((Below.refl _ _).alloc (Nat.le_refl _) (.cells #[.string c, .string d] t))
  have h2 := Two.new (W.alloc (.cells #[.string a, .string b] t)) c d t
  simp only [World.size_alloc] at h2
  exact ⟨h1, h2, h2, ((Below.refl _ _).alloc (Nat.le_refl _) _).alloc (by simp) _⟩
theorem spanin_any (k h : ByteArray) (w : World) :
    Calls Try.prog 29 #[.string k, .string h] w fun e w' => e = .returned (.bool (inB k h)) ∧ w = w' := by
  go_enter Try.func29, Try.ntmps29
  go_wp2
  all_goals go_ret
  all_goals exact ⟨ret_bool (by simp [inB, nilB, ltB, *]), rfl⟩
theorem has_any (lo hi k : ByteArray) (w : World) :
    Calls Try.prog 23 #[.agg #[.string lo, .string hi], .string k] w fun e w' => e = .returned (.bool (hasB lo hi k)) ∧ Below w.heap.size w w' := by
  cases hx : ltB k lo
  all_goals
    have h1 := hx
    unfold ltB at h1
    have HX := hide hx
    clear hx
    go_enter Try.func23, Try.ntmps23
    go_wp2_with (go_at_call 29; refine (spanin_any _ _ _).mono ?_; rintro e w' ⟨rfl, rfl⟩)
    go_ret
    exact ⟨ret_bool (by simp [hasB, HX.out]), (Below.refl _ _).alloc (Nat.le_refl _) _⟩
end Go.Proofs.Ytmcemijipplkgaa
