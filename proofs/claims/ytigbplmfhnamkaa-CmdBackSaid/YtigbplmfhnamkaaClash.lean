/- What Right and Clash of package cmd come to. Conditions: the keys have room. -/
import Derived.Test.YtigbplmfhnamkaaKeys
import Derived.Deep.RegionWith
namespace Go.Proofs.Ytigbplmfhnamkaa
open Go.RowKit
/-- Block g holds a command. -/
structure Seven (w : World) (g : Nat) (x : Cm) : Prop where
  c0 : w.cell? ⟨g, 0, none⟩ = some (.int .i64 x.k)
  c1 : w.cell? ⟨g, 1, none⟩ = some (.int .i64 x.c)
  c2 : w.cell? ⟨g, 2, none⟩ = some (.int .i64 x.q)
  c3 : w.cell? ⟨g, 3, none⟩ = some (.string x.key)
  c4 : w.cell? ⟨g, 4, none⟩ = some (.string x.en)
  c5 : w.cell? ⟨g, 5, none⟩ = some (.string x.old)
  c6 : w.cell? ⟨g, 6, none⟩ = some (.string x.val)
/-- What lies at g, as cells. -/
def rowC (x : Cm) : Array Value := #[.int .i64 x.k, .int .i64 x.c, .int .i64 x.q, .string x.key, .string x.en, .string x.old, .string x.val]
theorem seven_of {w : World} {g : Nat} {t : TypeId} {x : Cm} (h : Row w g t (rowC x)) : Seven w g x := ⟨h.cell 0, h.cell 1, h.cell 2, h.cell 3, h.cell 4, h.cell 5, h.cell 6⟩
theorem Seven.kept {w w' : World} {g : Nat} {x : Cm} (h : Seven w g x) (hb : Below (g + 1) w w') : Seven w' g x :=
  ⟨(hb.cell (p := ⟨g, 0, none⟩) (Nat.lt_succ_self g)).trans h.c0, (hb.cell (p := ⟨g, 1, none⟩) (Nat.lt_succ_self g)).trans h.c1, (hb.cell (p := ⟨g, 2, none⟩) (Nat.lt_succ_self g)).trans h.c2, (hb.cell (p := ⟨g, 3, none⟩) (Nat.lt_succ_self g)).trans h.c3,
    (hb.cell (p := ⟨g, 4, none⟩) (Nat.lt_succ_self g)).trans h.c4, (hb.cell (p := ⟨g, 5, none⟩) (Nat.lt_succ_self g)).trans h.c5, (hb.cell (p := ⟨g, 6, none⟩) (Nat.lt_succ_self g)).trans h.c6⟩
theorem Seven.drew {w : World} {g : Nat} {x : Cm} (h : Seven w g x) : Seven w.drew g x := ⟨h.c0, h.c1, h.c2, h.c3, h.c4, h.c5, h.c6⟩
/-- A command that was just boxed, and what was there. -/
structure Boxed (W w : World) (x : Cm) : Prop where
  c : Seven w W.heap.size x
  old : Below W.heap.size W w
  lt : W.heap.size < w.heap.size
theorem Boxed.start (W : World) (x : Cm) (t : TypeId) : Boxed W (W.alloc (.cells (rowC x) t)) x := ⟨seven_of (Row.new W t (rowC x)), (Below.refl _ _).alloc (Nat.le_refl _) _, by simp⟩
theorem Boxed.drew {W w : World} {x : Cm} (h : Boxed W w x) : Boxed W w.drew x := ⟨h.c.drew, h.old.drew, h.lt⟩
theorem Boxed.step {W w w' : World} {x : Cm} (h : Boxed W w x) (hb : Below w.heap.size w w') : Boxed W w' x := ⟨h.c.kept (hb.mono h.lt), h.old.trans (hb.mono h.old.size), Nat.lt_of_lt_of_le h.lt hb.size⟩
/-- A call that makes memory leaves it. -/
theorem Boxed.call {P : Program} {F : FuncId} {args : Array Value} {v : Value} {W w : World} {x : Cm} (h : Boxed W w x) (hf : Calls P F args w fun e w' => e = .returned v ∧ Below w.heap.size w w') :
    Calls P F args w fun e w' => e = .returned v ∧ w'.cell? ⟨W.heap.size, 0, none⟩ = some (.int .i64 x.k) ∧ w'.cell? ⟨W.heap.size, 1, none⟩ = some (.int .i64 x.c) ∧ w'.cell? ⟨W.heap.size, 2, none⟩ = some (.int .i64 x.q) ∧
      w'.cell? ⟨W.heap.size, 3, none⟩ = some (.string x.key) ∧ w'.cell? ⟨W.heap.size, 4, none⟩ = some (.string x.en) ∧ w'.cell? ⟨W.heap.size, 5, none⟩ = some (.string x.old) ∧ w'.cell? ⟨W.heap.size, 6, none⟩ = some (.string x.val) ∧ Boxed W w' x :=
  hf.mono fun _ _ ⟨he, hb⟩ => have g := h.step hb; ⟨he, g.c.c0, g.c.c1, g.c.c2, g.c.c3, g.c.c4, g.c.c5, g.c.c6, g⟩
set_option maxRecDepth 100000 in
set_option maxHeartbeats 4000000 in
theorem right_any (k c q : Int) (a b o v : ByteArray) (w : World) :
    Calls Try.prog 15 #[.agg #[.int .i64 k, .int .i64 c, .int .i64 q, .string a, .string b, .string o, .string v]] w fun e w' => e = .returned (.bool (rightC ⟨k, c, q, a, b, o, v⟩)) ∧ Below w.heap.size w w' := by
  have heq := fun k' c' q' a' b' o' v' => eql_cmd k c q a b o v k' c' q' a' b' o' v'
  by_cases h0 : k = 0
  · subst h0
    have hr : rightC ⟨0, c, q, a, b, o, v⟩ = sameC ⟨0, c, q, a, b, o, v⟩ ⟨0, 0, 0, ⟨#[]⟩, ⟨#[]⟩, ⟨#[]⟩, ⟨#[]⟩⟩ := rfl
    rw [hr]
    clear hr
    go_enter Try.func15, Try.ntmps15
    go_wp2
    all_goals go_ret
    all_goals exact ⟨rfl, (Below.refl _ _).alloc (Nat.le_refl _) _⟩
  · have hr : rightC ⟨k, c, q, a, b, o, v⟩ = (sameC ⟨k, c, q, a, b, o, v⟩ (namedC ⟨k, c, q, a, b, o, v⟩) && boundC ⟨k, c, q, a, b, o, v⟩) := by unfold rightC; rw [if_neg h0]
    rw [hr]
    clear hr
    have t0 : (k == 0) = false := by rw [beq_eq_false_iff_ne]; exact h0
    have hn := fun w1 => named_any k c q a b o v w1
    have st : Boxed w (w.alloc (.cells #[.int .i64 k, .int .i64 c, .int .i64 q, .string a, .string b, .string o, .string v] 23)) ⟨k, c, q, a, b, o, v⟩ := Boxed.start w ⟨k, c, q, a, b, o, v⟩ 23
    unfold valC at hn
    generalize namedC ⟨k, c, q, a, b, o, v⟩ = z at *
    obtain ⟨k', c', q', a', b', o', v'⟩ := z
    simp only at hn
    have hN := hide hn
    clear h0 hn
    cases hs : sameC ⟨k, c, q, a, b, o, v⟩ ⟨k', c', q', a', b', o', v'⟩
    · go_enter Try.func15, Try.ntmps15
      go_upto_region 3 with (fail)
      go_region_with (first
          | (go_at_call 31; (with_reducible refine (Boxed.call (W := w) (x := ⟨k, c, q, a, b, o, v⟩) (by first | with_reducible assumption | with_reducible exact Boxed.drew (by with_reducible assumption)) (hN.out _)).mono ?_); rintro e w' ⟨rfl, q0, q1, q2, q3, q4, q5, q6, st'⟩))
      all_goals go_wp2
      all_goals go_ret
      all_goals exact ⟨rfl, Boxed.old (by with_reducible assumption)⟩
    · go_enter Try.func15, Try.ntmps15
      go_upto_region 3 with (fail)
      go_region_held3 (fun w' => w'.cell? ⟨w.heap.size, 0, none⟩ = some (.int .i64 k) ∧ w'.cell? ⟨w.heap.size, 1, none⟩ = some (.int .i64 c) ∧ w'.cell? ⟨w.heap.size, 2, none⟩ = some (.int .i64 q) ∧
          w'.cell? ⟨w.heap.size, 3, none⟩ = some (.string a) ∧ w'.cell? ⟨w.heap.size, 4, none⟩ = some (.string b) ∧ w'.cell? ⟨w.heap.size, 5, none⟩ = some (.string o) ∧ w'.cell? ⟨w.heap.size, 6, none⟩ = some (.string v)) (go_keep)
        (first
          | (go_at_call 31; (with_reducible refine (Boxed.call (W := w) (x := ⟨k, c, q, a, b, o, v⟩) (by first | with_reducible assumption | with_reducible exact Boxed.drew (by with_reducible assumption)) (hN.out _)).mono ?_); rintro e w' ⟨rfl, q0, q1, q2, q3, q4, q5, q6, st'⟩)
          | (go_at_call 32; (with_reducible refine (Boxed.call (W := w) (x := ⟨k, c, q, a, b, o, v⟩) (by first | with_reducible assumption | with_reducible exact Boxed.drew (by with_reducible assumption)) (bounded_any k c q a b o v _)).mono ?_); rintro e w' ⟨rfl, q0, q1, q2, q3, q4, q5, q6, st'⟩))
      all_goals go_wp2
      all_goals go_ret
      all_goals exact ⟨rfl, Boxed.old (by with_reducible assumption)⟩
end Go.Proofs.Ytigbplmfhnamkaa
