/- What Keys and bounded of package cmd come to. Conditions: the key has room. -/
import Derived.Test.YtfihcgimgngmhaaVa
import Derived.Test.YtfihcgimgngmhaaVc
import Derived.Deep.RegionWith
import Derived.Deep.Quiet
import Derived.Deep.QuietTactic
import Derived.Deep.DeepCutAuto
import Derived.Deep.AppendLies
import Derived.Laws.OwnMore
import Derived.Laws.StructEq
import Derived.ChangeKeysEq
namespace Go.Proofs.Ytfihcgimgngmhaa
set_option maxRecDepth 100000
open Go.RowKit
theorem row_two {w : World} {g : Nat} {t : TypeId} {x y : Value} (h : Row w g t #[x, y]) : w.cell? ⟨g, 0, none⟩ = some x ∧ w.cell? ⟨g, 1, none⟩ = some y ∧ w.frozen? ⟨g, 0, none⟩ = false ∧ w.frozen? ⟨g, 1, none⟩ = false :=
  ⟨h.cell 0, h.cell 1, h.free 0, h.free 1⟩
/-- A block just laid, behind a call. -/
theorem row_at {w w' : World} {g : Nat} {t : TypeId} {cs : Array Value} (hb : Below (g + 1) (w.alloc (.cells cs t)) w') (hg : w.heap.size = g) : Row w' g t cs := by
  subst hg; exact (Row.new w t cs).below hb (by omega)
theorem two_more {w w' : World} {x y : Obj} (hb : Below (w.heap.size + 1 + 1) ((w.alloc x).alloc y) w') : Below w.heap.size w w' :=
  (((Below.refl _ _).alloc (Nat.le_refl _) x).alloc (by simp) y).trans (hb.mono (by omega))
theorem kinds51 (k : Int) : (k = 1 ∨ k = 2 ∨ k = 3 ∨ k = 4) ∨ k = 5 ∨ ((k == 1) = false ∧ (k == 2) = false ∧ (k == 3) = false ∧ (k == 4) = false ∧ (k == 5) = false) := by
  simp only [beq_eq_false_iff_ne]; omega
theorem hasC_no {k : Int} (k1 : (k == 1) = false) (k2 : (k == 2) = false) (k3 : (k == 3) = false) (k4 : (k == 4) = false) (k5 : (k == 5) = false) : hasC k = false := by
  simp only [beq_eq_false_iff_ne] at k1 k2 k3 k4 k5
  unfold hasC
  rw [Bool.and_eq_false_iff, decide_eq_false_iff_not, decide_eq_false_iff_not]; omega
/-- A span and a flag. -/
def keysV (x : Cm) : Value := .tuple #[.agg #[.string (loC x), .string (hiC x)], .bool (hasC x.k)]
theorem keys_no {x : Cm} (h : hasC x.k = false) : keysV x = .tuple #[.agg #[.string noT, .string noT], .bool false] := by
  unfold keysV loC hiC; rw [h]; rfl
set_option maxRecDepth 100000 in
set_option maxHeartbeats 2000000 in
theorem keys_any (k c q : Int) (a b o v : ByteArray) (w : World) (ha : a.size ≤ 140737488355328) :
    Calls Try.prog 37 #[.agg #[.int .i64 k, .int .i64 c, .int .i64 q, .string a, .string b, .string o, .string v]] w fun e w' => e = .returned (keysV ⟨k, c, q, a, b, o, v⟩) ∧ Below w.heap.size w w' := by
  have hof := fun w1 => of_any a w1 ha
  have hof := hide hof
  clear ha
  rcases kinds51 k with h4 | rfl | ⟨k1, k2, k3, k4, k5⟩
  · rcases h4 with rfl | rfl | rfl | rfl
    all_goals
      go_enter Try.func37, Try.ntmps37
      go_wp2_with (go_at_call 43; (with_reducible refine (hof.out _).mono ?_); rintro e w' ⟨rfl, hb⟩; simp only [World.size_alloc] at hb; obtain ⟨c0, c1, f0, f1⟩ := row_two (row_at hb (by simp)))
      refine bodyPost_ret (v := keysV ⟨_, c, q, a, b, o, v⟩) (by simp [results, Try.results37, go_sem, keysV, loC, hiC, hasC, *]) rfl ⟨rfl, ?_⟩
      exact ((two_more hb).setCell (by simp) _).setCell (by simp) _
  · go_enter Try.func37, Try.ntmps37
    go_wp2
    refine bodyPost_ret (v := keysV ⟨5, c, q, a, b, o, v⟩) (by simp [results, Try.results37, go_sem, keysV, loC, hiC, hasC]) rfl ⟨rfl, ?_⟩
    repeat' first | exact Below.refl _ _ | refine Below.drew ?_ | refine bit_alloc ?_ (Nat.le_refl _) _
  · have e : keysV ⟨k, c, q, a, b, o, v⟩ = .tuple #[.agg #[.string noT, .string noT], .bool false] := by rw [keys_no (hasC_no k1 k2 k3 k4 k5)]
    rw [e]
    clear e
    go_enter Try.func37, Try.ntmps37
    go_wp2
    refine bodyPost_ret (v := .tuple #[.agg #[.string noT, .string noT], .bool false]) (by simp [results, Try.results37, go_sem, noT]) rfl ⟨rfl, ?_⟩
    repeat' first | exact Below.refl _ _ | refine Below.drew ?_ | refine bit_alloc ?_ (Nat.le_refl _) _
/-- The greater of two numbers is within just if both are. -/
theorem most_le (x y z : Int) : decide ((if y > x then y else x) ≤ z) = decide (x ≤ z ∧ y ≤ z) := by
  split
  all_goals (apply decide_eq_decide.2; omega)
set_option maxRecDepth 100000 in
set_option maxHeartbeats 4000000 in
theorem bounded_any (k c q : Int) (a b o v : ByteArray) (w : World) :
    Calls Try.prog 35 #[.agg #[.int .i64 k, .int .i64 c, .int .i64 q, .string a, .string b, .string o, .string v]] w fun e w' => e = .returned (.bool (boundC ⟨k, c, q, a, b, o, v⟩)) ∧ Below w.heap.size w w' := by
  go_enter Try.func35, Try.ntmps35
  go_wp2
  all_goals go_ret
  all_goals exact ⟨ret_bool (by simp [boundC, nilB, *] <;> (first | omega | (rw [Bool.eq_iff_iff]; simp_all; omega) | (intros; simp_all))), (Below.refl _ _).alloc (Nat.le_refl _) _⟩
end Go.Proofs.Ytfihcgimgngmhaa
/- What Right and Clash of package cmd come to. Conditions: the keys have room. -/
namespace Go.Proofs.Ytfihcgimgngmhaa
set_option maxRecDepth 100000
open Go.RowKit
/-- Block g holds a command. -/
structure Seven (w : World) (g : Nat) (x : Cm) : Prop where
  c0 : w.cell? ⟨g, 0, none⟩ = some (.int .i64 x.k)
  c1 : w.cell? ⟨g, 1, none⟩ = some (.int .i64 x.c)
  c2 : w.cell? ⟨g, 2, none⟩ = some (.int .i64 x.q)
  c3 : w.cell? ⟨g, 3, none⟩ = some (.string x.key)
  c4 : w.cell? ⟨g, 4, none⟩ = some (.string x.en)
  c5 : w.cell? ⟨g, 5, none⟩ = some (.string x.old)
  c6 : w.cell? ⟨g, 6, none⟩ = some (.string x.val)
/-- What lies at g, as cells. -/
def rowC (x : Cm) : Array Value := #[.int .i64 x.k, .int .i64 x.c, .int .i64 x.q, .string x.key, .string x.en, .string x.old, .string x.val]
theorem seven_of {w : World} {g : Nat} {t : TypeId} {x : Cm} (h : Row w g t (rowC x)) : Seven w g x := ⟨h.cell 0, h.cell 1, h.cell 2, h.cell 3, h.cell 4, h.cell 5, h.cell 6⟩
theorem Seven.kept {w w' : World} {g : Nat} {x : Cm} (h : Seven w g x) (hb : Below (g + 1) w w') : Seven w' g x :=
  ⟨(hb.cell (p := ⟨g, 0, none⟩) (Nat.lt_succ_self g)).trans h.c0, (hb.cell (p := ⟨g, 1, none⟩) (Nat.lt_succ_self g)).trans h.c1, (hb.cell (p := ⟨g, 2, none⟩) (Nat.lt_succ_self g)).trans h.c2, (hb.cell (p := ⟨g, 3, none⟩) (Nat.lt_succ_self g)).trans h.c3,
    (hb.cell (p := ⟨g, 4, none⟩) (Nat.lt_succ_self g)).trans h.c4, (hb.cell (p := ⟨g, 5, none⟩) (Nat.lt_succ_self g)).trans h.c5, (hb.cell (p := ⟨g, 6, none⟩) (Nat.lt_succ_self g)).trans h.c6⟩
theorem Seven.drew {w : World} {g : Nat} {x : Cm} (h : Seven w g x) : Seven w.drew g x := ⟨h.c0, h.c1, h.c2, h.c3, h.c4, h.c5, h.c6⟩
/-- A command that was just boxed, and what was there. -/
structure Boxed (W w : World) (x : Cm) : Prop where
  c : Seven w W.heap.size x
  old : Below W.heap.size W w
  lt : W.heap.size < w.heap.size
theorem Boxed.start (W : World) (x : Cm) (t : TypeId) : Boxed W (W.alloc (.cells (rowC x) t)) x := ⟨seven_of (Row.new W t (rowC x)), (Below.refl _ _).alloc (Nat.le_refl _) _, by simp⟩
theorem Boxed.drew {W w : World} {x : Cm} (h : Boxed W w x) : Boxed W w.drew x := ⟨h.c.drew, h.old.drew, h.lt⟩
theorem Boxed.step {W w w' : World} {x : Cm} (h : Boxed W w x) (hb : Below w.heap.size w w') : Boxed W w' x := ⟨h.c.kept (hb.mono h.lt), h.old.trans (hb.mono h.old.size), Nat.lt_of_lt_of_le h.lt hb.size⟩
/-- A call that makes memory leaves it. -/
theorem Boxed.call {P : Program} {F : FuncId} {args : Array Value} {v : Value} {W w : World} {x : Cm} (h : Boxed W w x) (hf : Calls P F args w fun e w' => e = .returned v ∧ Below w.heap.size w w') :
    Calls P F args w fun e w' => e = .returned v ∧ w'.cell? ⟨W.heap.size, 0, none⟩ = some (.int .i64 x.k) ∧ w'.cell? ⟨W.heap.size, 1, none⟩ = some (.int .i64 x.c) ∧ w'.cell? ⟨W.heap.size, 2, none⟩ = some (.int .i64 x.q) ∧
      w'.cell? ⟨W.heap.size, 3, none⟩ = some (.string x.key) ∧ w'.cell? ⟨W.heap.size, 4, none⟩ = some (.string x.en) ∧ w'.cell? ⟨W.heap.size, 5, none⟩ = some (.string x.old) ∧ w'.cell? ⟨W.heap.size, 6, none⟩ = some (.string x.val) ∧ Boxed W w' x :=
  hf.mono fun _ _ ⟨he, hb⟩ => have g := h.step hb; ⟨he, g.c.c0, g.c.c1, g.c.c2, g.c.c3, g.c.c4, g.c.c5, g.c.c6, g⟩
set_option maxRecDepth 100000 in
set_option maxHeartbeats 4000000 in
theorem c_right_any (k c q : Int) (a b o v : ByteArray) (w : World) :
    Calls Try.prog 21 #[.agg #[.int .i64 k, .int .i64 c, .int .i64 q, .string a, .string b, .string o, .string v]] w fun e w' => e = .returned (.bool (rightC ⟨k, c, q, a, b, o, v⟩)) ∧ Below w.heap.size w w' := by
  have heq := fun k' c' q' a' b' o' v' => eql_cmd k c q a b o v k' c' q' a' b' o' v'
  by_cases h0 : k = 0
  · subst h0
    have hr : rightC ⟨0, c, q, a, b, o, v⟩ = sameC ⟨0, c, q, a, b, o, v⟩ ⟨0, 0, 0, ⟨#[]⟩, ⟨#[]⟩, ⟨#[]⟩, ⟨#[]⟩⟩ := rfl
    rw [hr]
    clear hr
    go_enter Try.func21, Try.ntmps21
    go_wp2
    all_goals go_ret
    all_goals exact ⟨rfl, (Below.refl _ _).alloc (Nat.le_refl _) _⟩
  · have hr : rightC ⟨k, c, q, a, b, o, v⟩ = (sameC ⟨k, c, q, a, b, o, v⟩ (namedC ⟨k, c, q, a, b, o, v⟩) && boundC ⟨k, c, q, a, b, o, v⟩) := by unfold rightC; rw [if_neg h0]
    rw [hr]
    clear hr
    have t0 : (k == 0) = false := by rw [beq_eq_false_iff_ne]; exact h0
    have hn := fun w1 => named_any k c q a b o v w1
    have st : Boxed w (w.alloc (.cells #[.int .i64 k, .int .i64 c, .int .i64 q, .string a, .string b, .string o, .string v] 29)) ⟨k, c, q, a, b, o, v⟩ := Boxed.start w ⟨k, c, q, a, b, o, v⟩ 29
    unfold valC at hn
    generalize namedC ⟨k, c, q, a, b, o, v⟩ = z at *
    obtain ⟨k', c', q', a', b', o', v'⟩ := z
    simp only at hn
    have hN := hide hn
    clear h0 hn
    cases hs : sameC ⟨k, c, q, a, b, o, v⟩ ⟨k', c', q', a', b', o', v'⟩
    · go_enter Try.func21, Try.ntmps21
      go_upto_region 3 with (fail)
      go_region_with (first
          | (go_at_call 34; (with_reducible refine (Boxed.call (W := w) (x := ⟨k, c, q, a, b, o, v⟩) (by first | with_reducible assumption | with_reducible exact Boxed.drew (by with_reducible assumption)) (hN.out _)).mono ?_); rintro e w' ⟨rfl, q0, q1, q2, q3, q4, q5, q6, st'⟩))
      all_goals go_wp2
      all_goals go_ret
      all_goals exact ⟨rfl, Boxed.old (by with_reducible assumption)⟩
    · go_enter Try.func21, Try.ntmps21
      go_upto_region 3 with (fail)
      go_region_held3 (fun w' => w'.cell? ⟨w.heap.size, 0, none⟩ = some (.int .i64 k) ∧ w'.cell? ⟨w.heap.size, 1, none⟩ = some (.int .i64 c) ∧ w'.cell? ⟨w.heap.size, 2, none⟩ = some (.int .i64 q) ∧
          w'.cell? ⟨w.heap.size, 3, none⟩ = some (.string a) ∧ w'.cell? ⟨w.heap.size, 4, none⟩ = some (.string b) ∧ w'.cell? ⟨w.heap.size, 5, none⟩ = some (.string o) ∧ w'.cell? ⟨w.heap.size, 6, none⟩ = some (.string v)) (go_keep)
        (first
          | (go_at_call 34; (with_reducible refine (Boxed.call (W := w) (x := ⟨k, c, q, a, b, o, v⟩) (by first | with_reducible assumption | with_reducible exact Boxed.drew (by with_reducible assumption)) (hN.out _)).mono ?_); rintro e w' ⟨rfl, q0, q1, q2, q3, q4, q5, q6, st'⟩)
          | (go_at_call 35; (with_reducible refine (Boxed.call (W := w) (x := ⟨k, c, q, a, b, o, v⟩) (by first | with_reducible assumption | with_reducible exact Boxed.drew (by with_reducible assumption)) (bounded_any k c q a b o v _)).mono ?_); rintro e w' ⟨rfl, q0, q1, q2, q3, q4, q5, q6, st'⟩))
      all_goals go_wp2
      all_goals go_ret
      all_goals exact ⟨rfl, Boxed.old (by with_reducible assumption)⟩
end Go.Proofs.Ytfihcgimgngmhaa
/- What Clash of package cmd comes to. Conditions: the keys have room. -/
namespace Go.Proofs.Ytfihcgimgngmhaa
set_option maxRecDepth 100000
open Go.RowKit
/-- Two commands that were just boxed, and what was there. -/
structure Both (W w : World) (x y : Cm) : Prop where
  a : Seven w W.heap.size x
  b : Seven w (W.heap.size + 1) y
  old : Below W.heap.size W w
  lt : W.heap.size + 1 < w.heap.size
theorem Both.start (W : World) (x y : Cm) (t : TypeId) : Both W ((W.alloc (.cells (rowC x) t)).alloc (.cells (rowC y) t)) x y :=
  ⟨(seven_of (Row.new W t (rowC x))).kept ((Below.refl _ _).alloc (by simp) _), by have := seven_of (Row.new (W.alloc (.cells (rowC x) t)) t (rowC y)); simpa using this, ((Below.refl _ _).alloc (Nat.le_refl _) _).alloc (by simp) _, by simp⟩
theorem Both.step {W w w' : World} {x y : Cm} (h : Both W w x y) (hb : Below w.heap.size w w') : Both W w' x y :=
  ⟨h.a.kept (hb.mono (by have := h.lt; omega)), h.b.kept (hb.mono h.lt), h.old.trans (hb.mono h.old.size), Nat.lt_of_lt_of_le h.lt hb.size⟩
/-- Behind Keys of the first. -/
structure Both1 (W w : World) (x y : Cm) (g : Nat) (l h : ByteArray) : Prop where
  s : Both W w x y
  t : Two w g l h
theorem Both1.step {W w w' : World} {x y : Cm} {g : Nat} {l h : ByteArray} (s : Both1 W w x y g l h) (hb : Below w.heap.size w w') : Both1 W w' x y g l h := ⟨s.s.step hb, s.t.kept hb⟩
structure Both2 (W w : World) (x y : Cm) (g : Nat) (l h : ByteArray) (g' : Nat) (l' h' : ByteArray) : Prop where
  s : Both1 W w x y g l h
  t : Two w g' l' h'
theorem Both2.step {W w w' : World} {x y : Cm} {g : Nat} {l h : ByteArray} {g' : Nat} {l' h' : ByteArray} (s : Both2 W w x y g l h g' l' h') (hb : Below w.heap.size w w') : Both2 W w' x y g l h g' l' h' := ⟨s.s.step hb, s.t.kept hb⟩
/-- What a walk needs of it. -/
def Cells7 (w : World) (g : Nat) (x : Cm) : Prop := w.cell? ⟨g, 0, none⟩ = some (.int .i64 x.k) ∧ w.cell? ⟨g, 1, none⟩ = some (.int .i64 x.c) ∧ w.cell? ⟨g, 2, none⟩ = some (.int .i64 x.q) ∧ w.cell? ⟨g, 3, none⟩ = some (.string x.key) ∧ w.cell? ⟨g, 4, none⟩ = some (.string x.en) ∧
  w.cell? ⟨g, 5, none⟩ = some (.string x.old) ∧ w.cell? ⟨g, 6, none⟩ = some (.string x.val)
theorem Seven.cells {w : World} {g : Nat} {x : Cm} (h : Seven w g x) : Cells7 w g x := ⟨h.c0, h.c1, h.c2, h.c3, h.c4, h.c5, h.c6⟩
/-- A call that makes memory leaves all of it. -/
theorem Both2.call {P : Program} {F : FuncId} {args : Array Value} {u : Value} {W w : World} {x y : Cm} {g : Nat} {l h : ByteArray} {g' : Nat} {l' h' : ByteArray} (s : Both2 W w x y g l h g' l' h') (hf : Calls P F args w fun e w' => e = .returned u ∧ Below w.heap.size w w') :
    Calls P F args w fun e w' => e = .returned u ∧ Cells7 w' W.heap.size x ∧ Cells7 w' (W.heap.size + 1) y ∧ (w'.cell? ⟨g, 0, none⟩ = some (.string l) ∧ w'.cell? ⟨g, 1, none⟩ = some (.string h) ∧ w'.cell? ⟨g', 0, none⟩ = some (.string l') ∧ w'.cell? ⟨g', 1, none⟩ = some (.string h')) ∧ Both2 W w' x y g l h g' l' h' :=
  hf.mono fun _ _ ⟨he, hb⟩ => have z := s.step hb; ⟨he, z.s.s.a.cells, z.s.s.b.cells, ⟨z.s.t.c0, z.s.t.c1, z.t.c0, z.t.c1⟩, z⟩
set_option maxRecDepth 100000 in
set_option maxHeartbeats 8000000 in
theorem clash_any (k c q : Int) (a b o v : ByteArray) (k' c' q' : Int) (a' b' o' v' : ByteArray) (w : World) (ha : a.size ≤ 140737488355328) (ha' : a'.size ≤ 140737488355328) :
    Calls Try.prog 23 #[.agg #[.int .i64 k, .int .i64 c, .int .i64 q, .string a, .string b, .string o, .string v], .agg #[.int .i64 k', .int .i64 c', .int .i64 q', .string a', .string b', .string o', .string v']] w
      fun e w' => e = .returned (.bool (clashC ⟨k, c, q, a, b, o, v⟩ ⟨k', c', q', a', b', o', v'⟩)) ∧ Below w.heap.size w w' := by
  have hk1 := fun w1 => keys_any k c q a b o v w1 ha
  have hk2 := fun w1 => keys_any k' c' q' a' b' o' v' w1 ha'
  have hw1 := fun w1 => writes_any k c q a b o v w1
  have hw2 := fun w1 => writes_any k' c' q' a' b' o' v' w1
  unfold clashC
  unfold keysV at hk1 hk2
  have st : Both w ((w.alloc (.cells #[.int .i64 k, .int .i64 c, .int .i64 q, .string a, .string b, .string o, .string v] 29)).alloc (.cells #[.int .i64 k', .int .i64 c', .int .i64 q', .string a', .string b', .string o', .string v'] 29)) ⟨k, c, q, a, b, o, v⟩ ⟨k', c', q', a', b', o', v'⟩ :=
    Both.start w ⟨k, c, q, a, b, o, v⟩ ⟨k', c', q', a', b', o', v'⟩ 29
  simp only at hk1 hk2 ⊢
  generalize loC ⟨k, c, q, a, b, o, v⟩ = l1 at *
  generalize hiC ⟨k, c, q, a, b, o, v⟩ = h1 at *
  generalize loC ⟨k', c', q', a', b', o', v'⟩ = l2 at *
  generalize hiC ⟨k', c', q', a', b', o', v'⟩ = h2 at *
  generalize hasC k = p at *
  generalize hasC k' = p' at *
  generalize writesC k = r at *
  generalize writesC k' = r' at *
  have K1 := hide hk1
  have K2 := hide hk2
  have W1 := hide hw1
  have W2 := hide hw2
  have ST := hide st
  clear hk1 hk2 hw1 hw2 ha ha' st
  go_enter Try.func23, Try.ntmps23
  go_upto_region 2 with (go_at_call 37; (with_reducible refine (K1.out _).mono ?_); rintro e w1 ⟨rfl, hb1⟩; have st1 := hide (ST.out.step hb1); clear hb1)
  have st2 := hide (show Both1 w _ _ _ w1.heap.size l1 h1 from ⟨st1.out.step ((Below.refl _ _).alloc (Nat.le_refl _) (.cells #[.string l1, .string h1] 72)), Two.new w1 l1 h1 72⟩)
  generalize w1.heap.size = g1 at *
  generalize w1.alloc (.cells #[.string l1, .string h1] 72) = w2 at *
  obtain ⟨b0, b1, b2, b3, b4, b5, b6⟩ := st2.out.s.b.cells
  go_upto_region 3 with (go_at_call 37; (with_reducible refine (K2.out _).mono ?_); rintro e w3 ⟨rfl, hb3⟩; have st3 := hide (st2.out.step hb3); clear hb3)
  have st4 := hide (show Both2 w _ _ _ g1 l1 h1 w3.heap.size l2 h2 from ⟨st3.out.step ((Below.refl _ _).alloc (Nat.le_refl _) (.cells #[.string l2, .string h2] 72)), Two.new w3 l2 h2 72⟩)
  generalize w3.heap.size = g2 at *
  generalize w3.alloc (.cells #[.string l2, .string h2] 72) = w4 at *
  obtain ⟨A0, A1, A2, A3, A4, A5, A6⟩ := st4.out.s.s.a.cells
  obtain ⟨B0, B1, B2, B3, B4, B5, B6⟩ := st4.out.s.s.b.cells
  have C0 := st4.out.s.t.c0
  have C1 := st4.out.s.t.c1
  have C2 := st4.out.t.c0
  have C3 := st4.out.t.c1
  simp only at A0 A1 A2 A3 A4 A5 A6 B0 B1 B2 B3 B4 B5 B6
  clear b0 b1 b2 b3 b4 b5 b6
  have old4 := st4.out.s.s.old
  have st := st4.out
  clear st1 st2 st3 st4 ST
  go_wp2_with (first
    | (go_at_call 38; (with_reducible refine (Both2.call (by with_reducible assumption) (W1.out _)).mono ?_); rintro e w5 ⟨rfl, ⟨A0, A1, A2, A3, A4, A5, A6⟩, ⟨B0, B1, B2, B3, B4, B5, B6⟩, ⟨C0, C1, C2, C3⟩, st⟩; simp only at A0 A1 A2 A3 A4 A5 A6 B0 B1 B2 B3 B4 B5 B6; have old4 := st.s.s.old)
    | (go_at_call 38; (with_reducible refine (Both2.call (by with_reducible assumption) (W2.out _)).mono ?_); rintro e w5 ⟨rfl, ⟨A0, A1, A2, A3, A4, A5, A6⟩, ⟨B0, B1, B2, B3, B4, B5, B6⟩, ⟨C0, C1, C2, C3⟩, st⟩; simp only at A0 A1 A2 A3 A4 A5 A6 B0 B1 B2 B3 B4 B5 B6; have old4 := st.s.s.old)
    | (go_at_call 39; (with_reducible refine (Both2.call (by with_reducible assumption) (meets_any l1 h1 l2 h2 _)).mono ?_); rintro e w5 ⟨rfl, ⟨A0, A1, A2, A3, A4, A5, A6⟩, ⟨B0, B1, B2, B3, B4, B5, B6⟩, ⟨C0, C1, C2, C3⟩, st⟩; have old4 := st.s.s.old))
  all_goals go_ret
  all_goals exact ⟨ret_bool (by simp [*] <;> simp_all), by with_reducible assumption⟩
end Go.Proofs.Ytfihcgimgngmhaa
/- A region that draws its order, whose operations read and whose calls make memory: one walk for all orders, in any class of worlds. No condition: nothing here speaks of a program. -/
namespace Go.Proofs.Ytfihcgimgngmhaa
open Go.RowKit
/-- A world in which S holds. -/
structure Sp (S : World → Prop) where
  w : World
  ok : S w
theorem wp_region_sp {P : Program} {id : Nat} {Q : Exit → Act → World → Prop} {a : Act} {w : World} {l : List Oper} (S : World → Prop) (hm : P.follows .mixedOrders = true) (hB : Region.lexB .any l.toArray = true) (h0 : S w.drew)
    (h : wpQuiet P l.toArray (fun w' => ∃ k : Sp S, w' = k.w) (fun a' => ∀ k : Sp S, Q .normal a' k.w) l a) : (Code.region id l.toArray true).wp P Q a w :=
  wp_region_quiet (C := fun w' => ∃ k : Sp S, w' = k.w) hm hB ⟨⟨w.drew, h0⟩, rfl⟩ (by simpa using h)
/-- Cut behind n operations. -/
theorem wpQuiet_cut {P : Program} {ops : Array Oper} {C : World → Prop} {Q R : Act → Prop} : ∀ (n : Nat) (l : List Oper) (a : Act), wpQuiet P ops C R (l.take n) a → (∀ a', R a' → wpQuiet P ops C Q (l.drop n) a') → wpQuiet P ops C Q l a
  | 0, _, _, h, hr => hr _ h
  | _ + 1, [], _, h, hr => hr _ h
  | n + 1, o :: l, a, h, hr => by
    have h' : if Region.wanted o (yielded ops a.tmps) then o.quiet P a C (wpQuiet P ops C R (l.take n)) else wpQuiet P ops C R (l.take n) (a.put o.dst undef) := h
    show if Region.wanted o (yielded ops a.tmps) then o.quiet P a C (wpQuiet P ops C Q l) else wpQuiet P ops C Q l (a.put o.dst undef)
    split
    · rename_i hw
      rw [if_pos hw] at h'
      exact Oper.quiet_mono (fun a' k => wpQuiet_cut n l a' k hr) h'
    · rename_i hw
      rw [if_neg hw] at h'
      exact wpQuiet_cut n l _ h' hr
theorem sp_call {P : Program} {f : FuncId} {args : Array Value} {v : Value} {S : World → Prop} (step : ∀ w w', S w → Below w.heap.size w w' → S w') (k : Sp S) (h : Calls P f args k.w fun e w' => e = .returned v ∧ Below k.w.heap.size k.w w') :
    Calls P f args k.w fun e w' => e = .returned v ∧ ∃ k : Sp S, w' = k.w := h.mono fun _ w' ⟨he, hb⟩ => ⟨he, ⟨w', step _ _ k.ok hb⟩, rfl⟩
theorem below_same {P : Program} {f : FuncId} {args : Array Value} {v : Value} {w : World} (h : Calls P f args w fun e w' => e = .returned v ∧ w = w') : Calls P f args w fun e w' => e = .returned v ∧ Below w.heap.size w w' :=
  h.mono fun _ _ ⟨he, e⟩ => ⟨he, by subst e; exact Below.refl _ _⟩
end Go.Proofs.Ytfihcgimgngmhaa
/- Reach of package deps. No condition. -/
namespace Go.Proofs.Ytfihcgimgngmhaa
open Go.RowKit
/-- A row of slots and an instance, boxed. -/
structure Rs (W w : World) (g h : Nat) (t u : TypeId) (d1 d2 d3 d4 d5 d6 d7 r s : Int) : Prop where
  low : Below W.heap.size W w
  d : Row w g t #[.int .i64 d1, .int .i64 d2, .int .i64 d3, .int .i64 d4, .int .i64 d5, .int .i64 d6, .int .i64 d7]
  i : Row w h u #[.int .i64 r, .int .i64 s]
theorem Rs.step {W w w' : World} {g h : Nat} {t u : TypeId} {d1 d2 d3 d4 d5 d6 d7 r s : Int} (k : Rs W w g h t u d1 d2 d3 d4 d5 d6 d7 r s) (hb : Below w.heap.size w w') : Rs W w' g h t u d1 d2 d3 d4 d5 d6 d7 r s :=
  ⟨kept_trans k.low hb, k.d.below hb k.d.lt, k.i.below hb k.i.lt⟩
set_option maxHeartbeats 1000000 in
theorem reach_any (d1 d2 d3 d4 d5 d6 d7 r s : Int) (w : World) : Calls Try.prog 24 #[.agg #[.int .i64 d1, .int .i64 d2, .int .i64 d3, .int .i64 d4, .int .i64 d5, .int .i64 d6, .int .i64 d7], .agg #[.int .i64 r, .int .i64 s]] w fun e w' =>
    e = .returned (.bool (reachB [d1, d2, d3, d4, d5, d6, d7] r s)) ∧ Below w.heap.size w w' := by
  have hr := hide fun w => right_any r s w
  have st0 := hide (show Rs w ((w.alloc (.cells #[.int .i64 d1, .int .i64 d2, .int .i64 d3, .int .i64 d4, .int .i64 d5, .int .i64 d6, .int .i64 d7] 32)).alloc (.cells #[.int .i64 r, .int .i64 s] 26)).drew w.heap.size (w.heap.size + 1) 32 26 d1 d2 d3 d4 d5 d6 d7 r s from
    ⟨kept_drewN (kept_alloc (kept_alloc (kept_refl w) _) _) 1, ((Row.new w _ _).alloc _).drew, by have h := (Row.new (w.alloc (.cells #[.int .i64 d1, .int .i64 d2, .int .i64 d3, .int .i64 d4, .int .i64 d5, .int .i64 d6, .int .i64 d7] 32)) 26 #[.int .i64 r, .int .i64 s]).drew; simpa using h⟩)
  by_cases hri : rightI r s = true
  · obtain ⟨⟨r0, r7⟩, s1, s2⟩ := rightI_says hri
    obtain ⟨k, rfl⟩ : ∃ k : Nat, r = k := ⟨r.toNat, by omega⟩
    have hk : k < 7 := by omega
    have he : reachB [d1, d2, d3, d4, d5, d6, d7] k s = decide (s ≤ ix [d1, d2, d3, d4, d5, d6, d7] k) := by unfold reachB; rw [hri, Int.toNat_natCast]; rfl
    rw [he]
    rw [hri] at hr
    have ST := hide (fun w' (q : Rs w w' w.heap.size (w.heap.size + 1) 32 26 d1 d2 d3 d4 d5 d6 d7 k s) => row_ix q.d k hk)
    generalize ix [d1, d2, d3, d4, d5, d6, d7] k = x at ST ⊢
    clear he hri
    go_enter Try.func24, Try.ntmps24
    go_upto_region 1 with (fail)
    refine wp_region_sp (fun w' => Rs w w' w.heap.size (w.heap.size + 1) 32 26 d1 d2 d3 d4 d5 d6 d7 k s) (by kernel_rfl) (by kernel_rfl) st0.out ?_
    generalize hS : (fun w' => Rs w w' w.heap.size (w.heap.size + 1) 32 26 d1 d2 d3 d4 d5 d6 d7 k s) = S
    have l0 : ∀ q : Sp S, q.w.cell? ⟨w.heap.size, k, none⟩ = some (.int .i64 x) := by subst hS; exact fun q => ST.out _ q.ok
    have l1 : ∀ q : Sp S, q.w.cell? ⟨w.heap.size + 1, 0, none⟩ = some (.int .i64 k) := by subst hS; exact fun q => q.ok.i.cell 0
    have l2 : ∀ q : Sp S, q.w.cell? ⟨w.heap.size + 1, 1, none⟩ = some (.int .i64 s) := by subst hS; exact fun q => q.ok.i.cell 1
    have ne : Nonempty (Sp S) := by subst hS; exact ⟨⟨_, st0.out⟩⟩
    have STEP : Hid (∀ w w', S w → Below w.heap.size w w' → S w') := by subst hS; exact fun _ _ h hb => h.step hb
    have LOW : Hid (∀ q : Sp S, Below w.heap.size w q.w) := by subst hS; exact fun q => q.ok.low
    clear hS ST
    repeat (
      refine wpQuiet_step (fun K hK => ?_)
      go_simp
      first
        | (refine hK _ ?_; clear hK K)
        | (apply Exists.intro; refine ⟨fun _ => ?_, hK _ ?_⟩; (go_at_call 22; exact sp_call STEP.out _ (hr.out _)); clear hK K))
    refine wpQuiet_nil ?_
    intro q
    have low := LOW.out q
    generalize q.w = wq at low ⊢
    go_wp2
    go_ret
    exact ⟨rfl, low⟩
  · have hri' : rightI r s = false := by simpa using hri
    have he : reachB [d1, d2, d3, d4, d5, d6, d7] r s = false := by unfold reachB; rw [hri']; rfl
    rw [he]
    rw [hri'] at hr
    clear he hri hri'
    go_enter Try.func24, Try.ntmps24
    go_upto_region 1 with (fail)
    refine wp_region_sp (fun w' => Rs w w' w.heap.size (w.heap.size + 1) 32 26 d1 d2 d3 d4 d5 d6 d7 r s) (by kernel_rfl) (by kernel_rfl) st0.out ?_
    generalize hS : (fun w' => Rs w w' w.heap.size (w.heap.size + 1) 32 26 d1 d2 d3 d4 d5 d6 d7 r s) = S
    have l1 : ∀ q : Sp S, q.w.cell? ⟨w.heap.size + 1, 0, none⟩ = some (.int .i64 r) := by subst hS; exact fun q => q.ok.i.cell 0
    have l2 : ∀ q : Sp S, q.w.cell? ⟨w.heap.size + 1, 1, none⟩ = some (.int .i64 s) := by subst hS; exact fun q => q.ok.i.cell 1
    have ne : Nonempty (Sp S) := by subst hS; exact ⟨⟨_, st0.out⟩⟩
    have STEP : Hid (∀ w w', S w → Below w.heap.size w w' → S w') := by subst hS; exact fun _ _ h hb => h.step hb
    have LOW : Hid (∀ q : Sp S, Below w.heap.size w q.w) := by subst hS; exact fun q => q.ok.low
    clear hS
    repeat (
      refine wpQuiet_step (fun K hK => ?_)
      go_simp
      first
        | (refine hK _ ?_; clear hK K)
        | (apply Exists.intro; refine ⟨fun _ => ?_, hK _ ?_⟩; (go_at_call 22; exact sp_call STEP.out _ (hr.out _)); clear hK K))
    refine wpQuiet_nil ?_
    intro q
    have low := LOW.out q
    generalize q.w = wq at low ⊢
    go_wp2
    go_ret
    exact ⟨rfl, low⟩
end Go.Proofs.Ytfihcgimgngmhaa
/- Slices of structs of ints, m cells each, as lists of lists of numbers: what a slice reads as, and that it stays; append of one. Conditions: it has room. No program is spoken of. -/
namespace Go.Proofs.Ytfihcgimgngmhaa
open Go.RowKit
/-- A struct of ints as cells; so many, one behind the other. -/
def cellsR (x : List Int) : List Value := x.map (Value.int .i64)
def cellsL (l : List (List Int)) : List Value := l.flatMap cellsR
/-- Each has m numbers. -/
def All (m : Nat) (l : List (List Int)) : Prop := ∀ x, x ∈ l → x.length = m
/-- From address A on there lie the structs l, m cells each, below the heap's end. -/
def Its (m : Nat) (w : World) (A : Option Addr) (l : List (List Int)) : Prop :=
  0 < l.length → ∃ b off, A = some ⟨b, off, none⟩ ∧ b < w.heap.size ∧ ∀ k x, l[k]? = some x → ∀ i, i < m → w.cell? ⟨b, off + k * m + i, none⟩ = some (.int .i64 (ix x i))
theorem length_cellsR (x : List Int) : (cellsR x).length = x.length := List.length_map _
theorem cellsR_at (x : List Int) {i : Nat} (h : i < x.length) : (cellsR x)[i]? = some (.int .i64 (ix x i)) := by
  unfold cellsR; rw [List.getElem?_map, List.getElem?_eq_getElem h, ix_lt x h]; rfl
section
variable {m : Nat} {l : List (List Int)}
theorem All.nil_ : All m [] := fun _ h => by cases h
theorem All.cons_ {x : List Int} (h : x.length = m) (k : All m l) : All m (x :: l) := fun y hy => by
  rcases List.mem_cons.1 hy with rfl | hy
  · exact h
  · exact k y hy
theorem All.at_ (h : All m l) {k : Nat} {x : List Int} (hk : l[k]? = some x) : x.length = m := h x (List.mem_of_getElem? hk)
theorem All.take (h : All m l) (n : Nat) : All m (l.take n) := fun x hx => h x (List.mem_of_mem_take hx)
theorem All.drop (h : All m l) (n : Nat) : All m (l.drop n) := fun x hx => h x (List.mem_of_mem_drop hx)
theorem All.append {l' : List (List Int)} (h : All m l) (k : All m l') : All m (l ++ l') := fun x hx => (List.mem_append.1 hx).elim (h x) (k x)
theorem All.rep (n : Nat) {x : List Int} (h : x.length = m) : All m (List.replicate n x) := fun y hy => by rw [(List.mem_replicate.1 hy).2]; exact h
theorem cellsL_cons (x : List Int) (l : List (List Int)) : cellsL (x :: l) = cellsR x ++ cellsL l := rfl
theorem cellsL_append (l l' : List (List Int)) : cellsL (l ++ l') = cellsL l ++ cellsL l' := by unfold cellsL; exact List.flatMap_append
theorem length_cellsL : ∀ {l : List (List Int)}, All m l → (cellsL l).length = l.length * m
  | [], _ => by simp [cellsL]
  | x :: r, h => by
    rw [cellsL_cons, List.length_append, length_cellsR, h x (by simp), length_cellsL fun y hy => h y (by simp [hy]), List.length_cons, Nat.add_mul, Nat.one_mul, Nat.add_comm]
theorem cellsL_of : ∀ {l : List (List Int)} {k : Nat} {x : List Int}, All m l → l[k]? = some x → ∀ i, i < m → (cellsL l)[k * m + i]? = some (.int .i64 (ix x i))
  | [], k, x, _, h => by simp at h
  | y :: r, 0, x, ha, h => fun i hi => by
    simp at h; subst h
    have hy : y.length = m := ha y (by simp)
    rw [cellsL_cons, Nat.zero_mul, Nat.zero_add, List.getElem?_append_left (by rw [length_cellsR, hy]; exact hi)]
    exact cellsR_at y (by omega)
  | y :: r, k + 1, x, ha, h => fun i hi => by
    have hy : y.length = m := ha y (by simp)
    have := cellsL_of (l := r) (k := k) (x := x) (fun z hz => ha z (by simp [hz])) (by simpa using h) i hi
    rw [cellsL_cons, List.getElem?_append_right (by rw [length_cellsR, hy, Nat.add_mul]; omega), length_cellsR, hy]
    rw [show (k + 1) * m + i - m = k * m + i by rw [Nat.add_mul]; omega]
    exact this
theorem cellsL_get {j : Nat} {u : Value} (ha : All m l) (h : (cellsL l)[j]? = some u) : ∃ k x i, l[k]? = some x ∧ i < m ∧ j = k * m + i ∧ u = .int .i64 (ix x i) := by
  have hj : j < l.length * m := by
    rcases Nat.lt_or_ge j (cellsL l).length with h1 | h1
    · rwa [length_cellsL ha] at h1
    · rw [List.getElem?_eq_none h1] at h; cases h
  have hm : 0 < m := by
    rcases Nat.eq_zero_or_pos m with rfl | h0
    · omega
    · exact h0
  have hd : j / m < l.length := Nat.div_lt_of_lt_mul (by rw [Nat.mul_comm]; exact hj)
  have hx : l[j / m]? = some l[j / m] := List.getElem?_eq_getElem hd
  have e : j = j / m * m + j % m := by have := Nat.div_add_mod j m; rw [Nat.mul_comm] at this; exact this.symm
  have h0 := cellsL_of ha hx (j % m) (Nat.mod_lt _ hm)
  rw [← e, h] at h0
  exact ⟨_, _, _, hx, Nat.mod_lt _ hm, e, Option.some.inj h0⟩
theorem cellsR_one (x : List Int) : ∀ u ∈ cellsR x, u.oneCell' = true := fun u hu => by
  unfold cellsR at hu
  obtain ⟨z, _, rfl⟩ := List.mem_map.1 hu
  rfl
theorem cellsL_one : ∀ u ∈ cellsL l, u.oneCell' = true := fun u hu => by
  unfold cellsL at hu
  obtain ⟨x, _, hx⟩ := List.mem_flatMap.1 hu
  exact cellsR_one x u hx
end
section
variable {m : Nat} {w w' : World} {A : Option Addr} {l : List (List Int)}
theorem Its.nil_ : Its m w A [] := fun h => absurd h (by simp)
theorem Its.none_ (h : Its m w none l) : l = [] := by
  rcases l with _ | ⟨x, r⟩
  · rfl
  · obtain ⟨_, _, e, _⟩ := h (by simp)
    cases e
theorem Its.at_ {k : Nat} {x : List Int} (h : Its m w A l) (hk : l[k]? = some x) : ∃ b off, A = some ⟨b, off, none⟩ ∧ b < w.heap.size ∧ ∀ i, i < m → w.cell? ⟨b, off + k * m + i, none⟩ = some (.int .i64 (ix x i)) := by
  have hl : k < l.length := by
    rcases Nat.lt_or_ge k l.length with h1 | h1
    · exact h1
    · rw [List.getElem?_eq_none h1] at hk; cases hk
  obtain ⟨b, off, e, hb, hc⟩ := h (by omega)
  exact ⟨b, off, e, hb, hc k x hk⟩
theorem Its.below (h : Its m w A l) (hb : Below w.heap.size w w') : Its m w' A l := fun hn => by
  obtain ⟨b, off, e, hlt, hc⟩ := h hn
  exact ⟨b, off, e, Nat.lt_of_lt_of_le hlt hb.size, fun k x hk i hi => (hb.cell (p := ⟨b, off + k * m + i, none⟩) hlt).trans (hc k x hk i hi)⟩
theorem Its.alloc (h : Its m w A l) (o : Obj) : Its m (w.alloc o) A l := h.below ((Below.refl _ _).alloc (Nat.le_refl _) o)
theorem Its.drewN (h : Its m w A l) (n : Nat) : Its m (w.drewN n) A l := h
theorem Its.drew (h : Its m w A l) : Its m w.drew A l := h
theorem Its.grown {row : Option Nat} (h : Its m w A l) (hg : w.grownBy w' row) (hne : ∀ a, A = some a → some a.block ≠ row) : Its m w' A l := fun hn => by
  obtain ⟨b, off, e, hlt, hc⟩ := h hn
  have hb := hne _ e
  exact ⟨b, off, e, Nat.lt_of_lt_of_le hlt hg.size, fun k x hk i hi => (hg.cell_far ⟨b, off + k * m + i, none⟩ hlt hb).trans (hc k x hk i hi)⟩
theorem Its.take (h : Its m w A l) (n : Nat) : Its m w A (l.take n) := fun hn => by
  obtain ⟨b, off, e, hlt, hc⟩ := h (by rw [List.length_take] at hn; omega)
  refine ⟨b, off, e, hlt, fun k x hk => ?_⟩
  rw [List.getElem?_take] at hk
  split at hk
  · exact hc k x hk
  · cases hk
/-- The rest of a slice from the i-th on: its address as the model reckons it. -/
def partM (m : Nat) (A : Option Addr) (c i : Nat) : Option Addr := if c = i then A else Option.map (fun x => x.add (i * m)) A
theorem Its.rest {c : Nat} (h : Its m w A l) (hc : l.length ≤ c) (i : Nat) : Its m w (partM m A c i) (l.drop i) := fun hn => by
  rw [List.length_drop] at hn
  obtain ⟨b, off, e, hlt, hcell⟩ := h (by omega)
  have hne : ¬ c = i := by omega
  unfold partM
  rw [if_neg hne, e]
  refine ⟨b, off + i * m, ?_, hlt, fun k x hk => ?_⟩
  · show some ((⟨b, off, none⟩ : Addr).add (i * m)) = _
    rw [Go.WideShapes.add_plain]
  · rw [List.getElem?_drop] at hk
    have := hcell _ _ hk
    rw [show off + i * m + k * m = off + (i + k) * m by rw [Nat.add_mul]; omega]
    exact this
theorem partM_none {c i : Nat} (h : A = none → c = 0) (k : partM m A c i = none) : c - i = 0 := by
  unfold partM at k
  split at k
  · omega
  · cases A with
    | none => rw [h rfl]; omega
    | some a => cases k
/-- A block that is just these. -/
theorem its_row {g : Nat} {t : TypeId} {cs : Array Value} (h : Row w g t cs) (ha : All m l) (hc : cs.toList = cellsL l) : Its m w (some ⟨g, 0, none⟩) l := fun _ =>
  ⟨g, 0, rfl, h.lt, fun k x hk i hi => by rw [h.cell, ← Array.getElem?_toList, hc, Nat.zero_add]; exact cellsL_of ha hk i hi⟩
/-- What an own slice holds lies. -/
theorem its_own {base : Nat} {e : TypeId} {n c : Nat} (h : w.ownsRow base e m (.slice A n c) n (cellsL l)) (ha : All m l) (hm : 0 < m) : Its m w A l ∧ l.length = n := by
  have hn : l.length = n := by
    have := h.1
    rw [length_cellsL ha] at this
    exact Nat.eq_of_mul_eq_mul_right hm this
  refine ⟨fun hp => ?_, hn⟩
  rcases h.2 with ⟨e, h0⟩ | ⟨g, cap, cur, e, hg, hh, q1, q2, q3, q4⟩
  · omega
  · injection e with e1 e2 e3
    subst e1
    refine ⟨g, 0, rfl, (Array.getElem?_eq_some_iff.1 hh).1, fun k x hk i hi => ?_⟩
    have h0 := cellsL_of ha hk i hi
    have hl : k < l.length := by
      rcases Nat.lt_or_ge k l.length with h1 | h1
      · exact h1
      · rw [List.getElem?_eq_none h1] at hk; cases hk
    have hlt : k * m + i < n * m := by
      have : (k + 1) * m ≤ n * m := Nat.mul_le_mul_right m (by omega)
      rw [Nat.add_mul] at this
      omega
    rw [← q4, List.getElem?_take_of_lt hlt, Array.getElem?_toList] at h0
    rw [cell_of_row w g _ cur _ (0, 0) hh, Nat.zero_add]; exact h0
theorem Its.cells {b off : Nat} (h : Its m w (some ⟨b, off, none⟩) l) (ha : All m l) : ∀ j u, (cellsL l)[j]? = some u → w.cell? ((⟨b, off, none⟩ : Addr).add j) = some u := fun j u hj => by
  obtain ⟨k, x, i, hk, hi, rfl, rfl⟩ := cellsL_get ha hj
  obtain ⟨b', off', e, _, h0⟩ := h.at_ hk
  injection e with e
  injection e with e1 e2 _
  subst e1 e2
  rw [Go.WideShapes.add_plain, ← Nat.add_assoc]
  exact h0 i hi
end
/-- append of a slice that lies, nil and empty too, onto an own one. -/
theorem run_append_its {P : Program} {w : World} {s : Nat} (base : Nat) (t ty e : TypeId) (i : TypeInfo) (z : Value) (ht : P.underlying t = some (.slice e)) (hi : P.info? e = some i) (hz : i.zero = some z) (hsize : i.size = s) (hby : i.bytes ≤ 64) (hs0 : 0 < s) (hzs : z.cells.size = s)
    (v : Value) (n : Nat) (xs : List (List Int)) (hown : w.ownsRow base e s v n (cellsL xs))
    (A : Option Addr) (m c : Nat) (zs : List (List Int)) (ha : All s zs) (hm : zs.length = m) (hc : A = none → c = 0) (hl : Its s w A zs) (hb : n + m ≤ 1000000000) (hbase : base ≤ w.heap.size) :
    ∃ v' w', (Builtin.append_ #[t, t] ty #[v, .slice A m c]).run P w = .ok v' w' ∧ w'.ownsRow base e s v' (n + m) (cellsL (xs ++ zs)) ∧ w.grownBy w' v.ownBlock ∧ (v' = .slice none 0 0 ↔ v = .slice none 0 0 ∧ m = 0) := by
  subst hm
  rcases A with _ | ad
  · obtain rfl := hl.none_
    obtain rfl := hc rfl
    exact ⟨v, w, run_append_owned_none (P := P) (w := w) base t ty e i s ht hi v n (cellsL xs) hown, by simpa using hown, grown_refl _ _, by simp⟩
  · have hsp : ∀ j u, (cellsL zs)[j]? = some u → w.cell? (ad.add j) = some u := fun j u hj => by
      rcases zs with _ | ⟨x, r⟩
      · cases hj
      · obtain ⟨b, off, e, _⟩ := hl (by simp)
        injection e with e
        subst e
        exact hl.cells ha j u hj
    obtain ⟨v', w', hr, h1, h2, h3⟩ := run_append_own (P := P) w base t ty e i z s i.bytes ht hi hz hsize rfl hzs hs0 v n (cellsL xs) hown ad zs.length c (cellsL zs) (length_cellsL ha) hsp cellsL_one (by unfold maxLen; omega) (Nat.le_trans (Nat.mul_le_mul hb hby) (by omega)) hbase
    exact ⟨v', w', hr, by rw [cellsL_append]; exact h1, h2, h3⟩
end Go.Proofs.Ytfihcgimgngmhaa
/- Join of package deps, and the document's. Conditions: the slice has room. -/
namespace Go.Proofs.Ytfihcgimgngmhaa
open Go.RowKit
/-- A struct of ints as a block. -/
def cA (x : List Int) : Array Value := (cellsR x).toArray
theorem row_cA {w : World} {g : Nat} {t : TypeId} {x : List Int} (h : Row w g t (cA x)) (i : Nat) (hi : i < x.length) : w.cell? ⟨g, i, none⟩ = some (.int .i64 (ix x i)) := by
  rw [h.cell, ← cellsR_at x hi]; simp [cA]
/-- A list of eight numbers, told by its places. -/
def tab8 (f : Nat → Int) : List Int := [f 0, f 1, f 2, f 3, f 4, f 5, f 6, f 7]
theorem tab8_ix (f : Nat → Int) {i : Nat} (h : i < 8) : ix (tab8 f) i = f i := by
  match i, h with
  | 0, _ => rfl
  | 1, _ => rfl
  | 2, _ => rfl
  | 3, _ => rfl
  | 4, _ => rfl
  | 5, _ => rfl
  | 6, _ => rfl
  | 7, _ => rfl
theorem len8 {x : List Int} (h : x.length = 8) : ∃ x0 x1 x2 x3 x4 x5 x6 x7, x = [x0, x1, x2, x3, x4, x5, x6, x7] := by
  match x, h with
  | [a, b, c, d, e, f, g, i], _ => exact ⟨a, b, c, d, e, f, g, i, rfl⟩
theorem tab8_of {x : List Int} (h : x.length = 8) {f : Nat → Int} (hf : ∀ i, i < 8 → ix x i = f i) : x = tab8 f := by
  obtain ⟨x0, x1, x2, x3, x4, x5, x6, x7, rfl⟩ := len8 h
  unfold tab8
  rw [← hf 0 (by omega), ← hf 1 (by omega), ← hf 2 (by omega), ← hf 3 (by omega), ← hf 4 (by omega), ← hf 5 (by omega), ← hf 6 (by omega), ← hf 7 (by omega)]
  rfl
/-- The greatest of two, number by number; as far as the k-th. -/
def maxA (a b : List Int) : List Int := tab8 fun i => max (ix a i) (ix b i)
def mixA (a b : List Int) (k : Nat) : List Int := tab8 fun i => if i ≤ k then max (ix a i) (ix b i) else ix a i
theorem len_maxA (a b : List Int) : (maxA a b).length = 8 := rfl
theorem len_mixA (a b : List Int) (k : Nat) : (mixA a b k).length = 8 := rfl
theorem mix_all (a b : List Int) : mixA a b 7 = maxA a b := rfl
theorem set_mix (a b : List Int) {k : Nat} (h : k < 7) : (cA (mixA a b k)).setIfInBounds (1 + k) (.int .i64 (max (ix (mixA a b k) (1 + k)) (ix b (1 + k)))) = cA (mixA a b (k + 1)) := by
  match k, h with
  | 0, _ => rfl
  | 1, _ => rfl
  | 2, _ => rfl
  | 3, _ => rfl
  | 4, _ => rfl
  | 5, _ => rfl
  | 6, _ => rfl
theorem set_mix0 {a : List Int} (b : List Int) (h : a.length = 8) : (cA a).setIfInBounds 0 (.int .i64 (max (ix a 0) (ix b 0))) = cA (mixA a b 0) := by
  obtain ⟨x0, x1, x2, x3, x4, x5, x6, x7, rfl⟩ := len8 h
  rfl
def zero8 : List Int := [0, 0, 0, 0, 0, 0, 0, 0]
/-- All of them joined. -/
def joinL : List (List Int) → List Int
  | [] => zero8
  | a :: r => r.foldl maxA a
theorem joinL_len {l : List (List Int)} (h : All 8 l) : (joinL l).length = 8 := by
  rcases l with _ | ⟨a, r⟩
  · rfl
  · show (r.foldl maxA a).length = 8
    have ha := h a (by simp)
    clear h
    induction r generalizing a with
    | nil => exact ha
    | cons b r ih => exact ih (maxA a b) rfl
theorem eight_put {a b c d e f g i u0 u1 u2 u3 u4 u5 u6 u7 : Value} : ((((((((#[a, b, c, d, e, f, g, i] : Array Value).setIfInBounds 0 u0).setIfInBounds 1 u1).setIfInBounds 2 u2).setIfInBounds 3 u3).setIfInBounds 4 u4).setIfInBounds 5 u5).setIfInBounds 6 u6).setIfInBounds 7 u7 = #[u0, u1, u2, u3, u4, u5, u6, u7] := by
  simp
theorem row_eight {w : World} {g : Nat} {t : TypeId} {u0 u1 u2 u3 u4 u5 u6 u7 : Value} (h : Row w g t #[u0, u1, u2, u3, u4, u5, u6, u7]) (v0 v1 v2 v3 v4 v5 v6 v7 : Value) :
    Row ((((((((w.setCell ⟨g, 0, none⟩ v0).setCell ⟨g, 1, none⟩ v1).setCell ⟨g, 2, none⟩ v2).setCell ⟨g, 3, none⟩ v3).setCell ⟨g, 4, none⟩ v4).setCell ⟨g, 5, none⟩ v5).setCell ⟨g, 6, none⟩ v6).setCell ⟨g, 7, none⟩ v7) g t #[v0, v1, v2, v3, v4, v5, v6, v7] := by
  have z := (((((((h.put 0 v0).put 1 v1).put 2 v2).put 3 v3).put 4 v4).put 5 v5).put 6 v6).put 7 v7
  rw [eight_put] at z
  exact z
theorem below_eight {B : Nat} {W w : World} {g : Nat} (h : Below B W w) (hg : B ≤ g) (v0 v1 v2 v3 v4 v5 v6 v7 : Value) :
    Below B W ((((((((w.setCell ⟨g, 0, none⟩ v0).setCell ⟨g, 1, none⟩ v1).setCell ⟨g, 2, none⟩ v2).setCell ⟨g, 3, none⟩ v3).setCell ⟨g, 4, none⟩ v4).setCell ⟨g, 5, none⟩ v5).setCell ⟨g, 6, none⟩ v6).setCell ⟨g, 7, none⟩ v7) :=
  (((((((h.setCell hg v0).setCell hg v1).setCell hg v2).setCell hg v3).setCell hg v4).setCell hg v5).setCell hg v6).setCell hg v7
/-- The eight cells of a struct, and that they may be written. -/
def Cells8 (w : World) (g o : Nat) (x : List Int) : Prop := w.cell? ⟨g, o, none⟩ = some (.int .i64 (ix x 0)) ∧ w.cell? ⟨g, o + 1, none⟩ = some (.int .i64 (ix x 1)) ∧ w.cell? ⟨g, o + 2, none⟩ = some (.int .i64 (ix x 2)) ∧ w.cell? ⟨g, o + 3, none⟩ = some (.int .i64 (ix x 3)) ∧
  w.cell? ⟨g, o + 4, none⟩ = some (.int .i64 (ix x 4)) ∧ w.cell? ⟨g, o + 5, none⟩ = some (.int .i64 (ix x 5)) ∧ w.cell? ⟨g, o + 6, none⟩ = some (.int .i64 (ix x 6)) ∧ w.cell? ⟨g, o + 7, none⟩ = some (.int .i64 (ix x 7))
theorem Row.eight {w : World} {g : Nat} {t : TypeId} {cs : Array Value} (h : Row w g t cs) : w.cell? ⟨g, 0, none⟩ = cs[0]? ∧ w.cell? ⟨g, 1, none⟩ = cs[1]? ∧ w.cell? ⟨g, 2, none⟩ = cs[2]? ∧ w.cell? ⟨g, 3, none⟩ = cs[3]? ∧ w.cell? ⟨g, 4, none⟩ = cs[4]? ∧ w.cell? ⟨g, 5, none⟩ = cs[5]? ∧ w.cell? ⟨g, 6, none⟩ = cs[6]? ∧ w.cell? ⟨g, 7, none⟩ = cs[7]? :=
  ⟨h.cell 0, h.cell 1, h.cell 2, h.cell 3, h.cell 4, h.cell 5, h.cell 6, h.cell 7⟩
theorem Row.free8 {w : World} {g : Nat} {t : TypeId} {cs : Array Value} (h : Row w g t cs) : w.frozen? ⟨g, 0, none⟩ = false ∧ w.frozen? ⟨g, 1, none⟩ = false ∧ w.frozen? ⟨g, 2, none⟩ = false ∧ w.frozen? ⟨g, 3, none⟩ = false ∧ w.frozen? ⟨g, 4, none⟩ = false ∧ w.frozen? ⟨g, 5, none⟩ = false ∧ w.frozen? ⟨g, 6, none⟩ = false ∧ w.frozen? ⟨g, 7, none⟩ = false :=
  ⟨h.free 0, h.free 1, h.free 2, h.free 3, h.free 4, h.free 5, h.free 6, h.free 7⟩
theorem eight_at {w : World} {b o : Nat} {x : List Int} (h : ∀ i, i < 8 → w.cell? ⟨b, o + i, none⟩ = some (.int .i64 (ix x i))) : Cells8 w b o x :=
  ⟨h 0 (by omega), h 1 (by omega), h 2 (by omega), h 3 (by omega), h 4 (by omega), h 5 (by omega), h 6 (by omega), h 7 (by omega)⟩
theorem eight_lit {w : World} {b o : Nat} {x0 x1 x2 x3 x4 x5 x6 x7 : Int} (h : Cells8 w b o [x0, x1, x2, x3, x4, x5, x6, x7]) : w.cell? ⟨b, o, none⟩ = some (.int .i64 x0) ∧ w.cell? ⟨b, o + 1, none⟩ = some (.int .i64 x1) ∧ w.cell? ⟨b, o + 2, none⟩ = some (.int .i64 x2) ∧ w.cell? ⟨b, o + 3, none⟩ = some (.int .i64 x3) ∧
    w.cell? ⟨b, o + 4, none⟩ = some (.int .i64 x4) ∧ w.cell? ⟨b, o + 5, none⟩ = some (.int .i64 x5) ∧ w.cell? ⟨b, o + 6, none⟩ = some (.int .i64 x6) ∧ w.cell? ⟨b, o + 7, none⟩ = some (.int .i64 x7) := h
/-- While Join goes on: the answer's block, the joined one's. -/
structure Jn (W w : World) (x : List Int) : Prop where
  low : Below W.heap.size W w
  res : Row w W.heap.size 34 (cA zero8)
  j : Row w (W.heap.size + 1) 34 (cA x)
theorem Jn.alloc {W w : World} {x : List Int} (h : Jn W w x) (o : Obj) : Jn W (w.alloc o) x := ⟨kept_alloc h.low o, h.res.alloc o, h.j.alloc o⟩
theorem Jn.put {W w : World} {x y : List Int} (h : Jn W w x) (i : Nat) (v : Value) (he : (cA x).setIfInBounds i v = cA y) : Jn W (w.setCell ⟨W.heap.size + 1, i, none⟩ v) y :=
  ⟨h.low.setCell (by simp) v, (Below.heap_setCell w ⟨W.heap.size + 1, i, none⟩ v W.heap.size (by show W.heap.size ≠ W.heap.size + 1; omega)).trans h.res, he ▸ h.j.put i v⟩
theorem results_at8 {fn : Func} {p : Tmp} {tmps : Array Value} {w : World} {g : Nat} {t : TypeId} {v0 v1 v2 v3 v4 v5 v6 v7 : Value} (hf : fn.results = #[.cell p 34]) (hp : tmps.getD p undef = .pointer (some ⟨g, 0, none⟩)) (hr : Row w g t #[v0, v1, v2, v3, v4, v5, v6, v7]) :
    (results fn tmps).run Try.prog w = .ok (.agg #[v0, v1, v2, v3, v4, v5, v6, v7]) w :=
  results_cell_row hf tmps w g t _ _ _ hp hr Try.underlying34 rfl (by kernel_rfl)
end Go.Proofs.Ytfihcgimgngmhaa
/- '==' and '!=' of rows of slots, attributes and instances. No condition. -/
namespace Go.Proofs.Ytfihcgimgngmhaa
open Go.RowKit
theorem part_int (cs : Array Value) (o : Nat) (n : Int) (h : cs[o]? = some (.int .i64 n)) (w : World) : (part 3 cs o).run Try.prog w = .ok (.int .i64 n) w := by
  have a3 := Try.isAgg3
  simp [part, a3, h]
theorem items_step (d : Nat) (xs ys : Array Value) (i : Nat) (is : List Nat) (a b : Int) (w : World) (hx : xs[i]? = some (.int .i64 a)) (hy : ys[i]? = some (.int .i64 b)) (r : Bool) (h : (Op.eqItems (d + 1) 3 1 xs ys is).run Try.prog w = .ok r w) :
    (Op.eqItems (d + 1) 3 1 xs ys (i :: is)).run Try.prog w = .ok (a == b && r) w := by
  have e := run_equalIn_int (P := Try.prog) w d 3 .i64 .i64 a b Try.underlying3
  simp only [Op.eqItems, Sem.run_bind, Nat.mul_one, part_int xs i a hx, part_int ys i b hy, e, Result.andThen_ok]
  cases hab : (a == b)
  · simp
  · simpa using h
theorem equal_deps (d : Nat) (a1 a2 a3 a4 a5 a6 a7 b1 b2 b3 b4 b5 b6 b7 : Int) (w : World) : (Op.equalIn (d + 1 + 1) 32 (.agg #[.int .i64 a1, .int .i64 a2, .int .i64 a3, .int .i64 a4, .int .i64 a5, .int .i64 a6, .int .i64 a7]) (.agg #[.int .i64 b1, .int .i64 b2, .int .i64 b3, .int .i64 b4, .int .i64 b5, .int .i64 b6, .int .i64 b7])).run Try.prog w = .ok (decide ([a1, a2, a3, a4, a5, a6, a7] = [b1, b2, b3, b4, b5, b6, b7])) w := by
  obtain ⟨i0, hi, _, _, _⟩ := info_parts (show (Try.prog.info? 3).map (fun i => (i.zero, i.size, i.bytes)) = some (some (.int .i64 0), 1, 8) by kernel_rfl)
  rw [run_equalIn_array w (d + 1) _ _ Try.underlying32 hi, show Try.prog.cellsOf 3 = 1 by kernel_rfl, show List.range 7 = [0, 1, 2, 3, 4, 5, 6] from rfl]
  rw [items_step d _ _ 0 _ a1 b1 w rfl rfl _ (items_step d _ _ 1 _ a2 b2 w rfl rfl _ (items_step d _ _ 2 _ a3 b3 w rfl rfl _ (items_step d _ _ 3 _ a4 b4 w rfl rfl _ (items_step d _ _ 4 _ a5 b5 w rfl rfl _ (items_step d _ _ 5 _ a6 b6 w rfl rfl _ (items_step d _ _ 6 _ a7 b7 w rfl rfl true rfl))))))]
  congr 1
  rw [Bool.eq_iff_iff]
  simp
theorem eql_deps (a1 a2 a3 a4 a5 a6 a7 b1 b2 b3 b4 b5 b6 b7 : Int) (w : World) : (binOp .eql 32 (.agg #[.int .i64 a1, .int .i64 a2, .int .i64 a3, .int .i64 a4, .int .i64 a5, .int .i64 a6, .int .i64 a7]) (.agg #[.int .i64 b1, .int .i64 b2, .int .i64 b3, .int .i64 b4, .int .i64 b5, .int .i64 b6, .int .i64 b7])).run Try.prog w = .ok (.bool (decide ([a1, a2, a3, a4, a5, a6, a7] = [b1, b2, b3, b4, b5, b6, b7]))) w := by
  rw [run_eql_struct, show (10000 : Nat) = 9998 + 1 + 1 from rfl, equal_deps]; rfl
theorem neq_deps (a1 a2 a3 a4 a5 a6 a7 b1 b2 b3 b4 b5 b6 b7 : Int) (w : World) : (binOp .neq 32 (.agg #[.int .i64 a1, .int .i64 a2, .int .i64 a3, .int .i64 a4, .int .i64 a5, .int .i64 a6, .int .i64 a7]) (.agg #[.int .i64 b1, .int .i64 b2, .int .i64 b3, .int .i64 b4, .int .i64 b5, .int .i64 b6, .int .i64 b7])).run Try.prog w = .ok (.bool (!decide ([a1, a2, a3, a4, a5, a6, a7] = [b1, b2, b3, b4, b5, b6, b7]))) w := by
  rw [run_neq_struct, show (10000 : Nat) = 9998 + 1 + 1 from rfl, equal_deps]; rfl
theorem equal_attr (a0 a1 a2 a3 a4 a5 a6 a7 b0 b1 b2 b3 b4 b5 b6 b7 : Int) (w : World) : (Op.equalIn 10000 34 (.agg #[.int .i64 a0, .int .i64 a1, .int .i64 a2, .int .i64 a3, .int .i64 a4, .int .i64 a5, .int .i64 a6, .int .i64 a7]) (.agg #[.int .i64 b0, .int .i64 b1, .int .i64 b2, .int .i64 b3, .int .i64 b4, .int .i64 b5, .int .i64 b6, .int .i64 b7])).run Try.prog w = .ok (decide ([a0, a1, a2, a3, a4, a5, a6, a7] = [b0, b1, b2, b3, b4, b5, b6, b7])) w := by
  have hS : Try.prog.underlying 34 = some (.struct (Try.prog.fieldsOf 34)) := by kernel_rfl
  have hp : Try.prog.stoodInHeld 34 = false := by kernel_rfl
  have e := run_equalIn_int (P := Try.prog) w 9998 3 .i64 .i64 a0 b0 Try.underlying3
  have e2 := equal_deps 9997 a1 a2 a3 a4 a5 a6 a7 b1 b2 b3 b4 b5 b6 b7 w
  have p1 : (part 32 #[.int .i64 a0, .int .i64 a1, .int .i64 a2, .int .i64 a3, .int .i64 a4, .int .i64 a5, .int .i64 a6, .int .i64 a7] 1).run Try.prog w = .ok (.agg #[.int .i64 a1, .int .i64 a2, .int .i64 a3, .int .i64 a4, .int .i64 a5, .int .i64 a6, .int .i64 a7]) w := by kernel_rfl
  have p2 : (part 32 #[.int .i64 b0, .int .i64 b1, .int .i64 b2, .int .i64 b3, .int .i64 b4, .int .i64 b5, .int .i64 b6, .int .i64 b7] 1).run Try.prog w = .ok (.agg #[.int .i64 b1, .int .i64 b2, .int .i64 b3, .int .i64 b4, .int .i64 b5, .int .i64 b6, .int .i64 b7]) w := by kernel_rfl
  have q1 := part_int #[.int .i64 a0, .int .i64 a1, .int .i64 a2, .int .i64 a3, .int .i64 a4, .int .i64 a5, .int .i64 a6, .int .i64 a7] 0 a0 rfl w
  have q2 := part_int #[.int .i64 b0, .int .i64 b1, .int .i64 b2, .int .i64 b3, .int .i64 b4, .int .i64 b5, .int .i64 b6, .int .i64 b7] 0 b0 rfl w
  rw [show (10000 : Nat) = 9999 + 1 from rfl, run_equalIn_agg w 9999 34 _ _ hS hp]
  simp only [Program.fieldsOf, Try.underlying34]
  have hL : decide ([a0, a1, a2, a3, a4, a5, a6, a7] = [b0, b1, b2, b3, b4, b5, b6, b7]) = (a0 == b0 && decide ([a1, a2, a3, a4, a5, a6, a7] = [b1, b2, b3, b4, b5, b6, b7])) := by
    rw [Bool.eq_iff_iff]
    simp
  rw [hL]
  generalize decide ([a1, a2, a3, a4, a5, a6, a7] = [b1, b2, b3, b4, b5, b6, b7]) = p at e2
  cases h0 : (a0 == b0)
  · rw [h0] at e
    simp [Op.eqFields, q1, q2, e]
  · rw [h0] at e
    cases p <;> simp [Op.eqFields, q1, q2, p1, p2, e, e2]
theorem eql_attr (a0 a1 a2 a3 a4 a5 a6 a7 b0 b1 b2 b3 b4 b5 b6 b7 : Int) (w : World) : (binOp .eql 34 (.agg #[.int .i64 a0, .int .i64 a1, .int .i64 a2, .int .i64 a3, .int .i64 a4, .int .i64 a5, .int .i64 a6, .int .i64 a7]) (.agg #[.int .i64 b0, .int .i64 b1, .int .i64 b2, .int .i64 b3, .int .i64 b4, .int .i64 b5, .int .i64 b6, .int .i64 b7])).run Try.prog w = .ok (.bool (decide ([a0, a1, a2, a3, a4, a5, a6, a7] = [b0, b1, b2, b3, b4, b5, b6, b7]))) w := by
  rw [run_eql_struct, equal_attr]; rfl
theorem neq_attr (a0 a1 a2 a3 a4 a5 a6 a7 b0 b1 b2 b3 b4 b5 b6 b7 : Int) (w : World) : (binOp .neq 34 (.agg #[.int .i64 a0, .int .i64 a1, .int .i64 a2, .int .i64 a3, .int .i64 a4, .int .i64 a5, .int .i64 a6, .int .i64 a7]) (.agg #[.int .i64 b0, .int .i64 b1, .int .i64 b2, .int .i64 b3, .int .i64 b4, .int .i64 b5, .int .i64 b6, .int .i64 b7])).run Try.prog w = .ok (.bool (!decide ([a0, a1, a2, a3, a4, a5, a6, a7] = [b0, b1, b2, b3, b4, b5, b6, b7]))) w := by
  rw [run_neq_struct, equal_attr]; rfl
end Go.Proofs.Ytfihcgimgngmhaa
