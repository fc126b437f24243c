/- What Clash of package cmd comes to. Conditions: the keys have room. -/
import Derived.Test.YtigbplmfhnamkaaClash
namespace Go.Proofs.Ytigbplmfhnamkaa
open Go.RowKit
/-- Two commands that were just boxed, and what was there. -/
structure Both (W w : World) (x y : Cm) : Prop where
  a : Seven w W.heap.size x
  b : Seven w (W.heap.size + 1) y
  old : Below W.heap.size W w
  lt : W.heap.size + 1 < w.heap.size
theorem Both.start (W : World) (x y : Cm) (t : TypeId) : Both W ((W.alloc (.cells (rowC x) t)).alloc (.cells (rowC y) t)) x y :=
  ⟨(seven_of (Row.new W t (rowC x))).kept ((Below.refl _ _).alloc (by simp) _), by have := seven_of (Row.new (W.alloc (.cells (rowC x) t)) t (rowC y)); simpa using this, ((Below.refl _ _).alloc (Nat.le_refl _) _).alloc (by simp) _, by simp⟩
theorem Both.step {W w w' : World} {x y : Cm} (h : Both W w x y) (hb : Below w.heap.size w w') : Both W w' x y :=
  ⟨h.a.kept (hb.mono (by have := h.lt; omega)), h.b.kept (hb.mono h.lt), h.old.trans (hb.mono h.old.size), Nat.lt_of_lt_of_le h.lt hb.size⟩
/-- Behind Keys of the first. -/
structure Both1 (W w : World) (x y : Cm) (g : Nat) (l h : ByteArray) : Prop where
  s : Both W w x y
  t : Two w g l h
theorem Both1.step {W w w' : World} {x y : Cm} {g : Nat} {l h : ByteArray} (s : Both1 W w x y g l h) (hb : Below w.heap.size w w') : Both1 W w' x y g l h := ⟨s.s.step hb, s.t.kept hb⟩
structure Both2 (W w : World) (x y : Cm) (g : Nat) (l h : ByteArray) (g' : Nat) (l' h' : ByteArray) : Prop where
  s : Both1 W w x y g l h
  t : Two w g' l' h'
theorem Both2.step {W w w' : World} {x y : Cm} {g : Nat} {l h : ByteArray} {g' : Nat} {l' h' : ByteArray} (s : Both2 W w x y g l h g' l' h') (hb : Below w.heap.size w w') : Both2 W w' x y g l h g' l' h' := ⟨s.s.step hb, s.t.kept hb⟩
/-- What a walk needs of it. -/
def Cells7 (w : World) (g : Nat) (x : Cm) : Prop := w.cell? ⟨g, 0, none⟩ = some (.int .i64 x.k) ∧ w.cell? ⟨g, 1, none⟩ = some (.int .i64 x.c) ∧ w.cell? ⟨g, 2, none⟩ = some (.int .i64 x.q) ∧ w.cell? ⟨g, 3, none⟩ = some (.string x.key) ∧ w.cell? ⟨g, 4, none⟩ = some (.string x.en) ∧
  w.cell? ⟨g, 5, none⟩ = some (.string x.old) ∧ w.cell? ⟨g, 6, none⟩ = some (.string x.val)
theorem Seven.cells {w : World} {g : Nat} {x : Cm} (h : Seven w g x) : Cells7 w g x := ⟨h.c0, h.c1, h.c2, h.c3, h.c4, h.c5, h.c6⟩
/-- A call that makes memory leaves all of it. -/
theorem Both2.call {P : Program} {F : FuncId} {args : Array Value} {u : Value} {W w : World} {x y : Cm} {g : Nat} {l h : ByteArray} {g' : Nat} {l' h' : ByteArray} (s : Both2 W w x y g l h g' l' h') (hf : Calls P F args w fun e w' => e = .returned u ∧ Below w.heap.size w w') :
    Calls P F args w fun e w' => e = .returned u ∧ Cells7 w' W.heap.size x ∧ Cells7 w' (W.heap.size + 1) y ∧ (w'.cell? ⟨g, 0, none⟩ = some (.string l) ∧ w'.cell? ⟨g, 1, none⟩ = some (.string h) ∧ w'.cell? ⟨g', 0, none⟩ = some (.string l') ∧ w'.cell? ⟨g', 1, none⟩ = some (.string h')) ∧ Both2 W w' x y g l h g' l' h' :=
  hf.mono fun _ _ ⟨he, hb⟩ => have z := s.step hb; ⟨he, z.s.s.a.cells, z.s.s.b.cells, ⟨z.s.t.c0, z.s.t.c1, z.t.c0, z.t.c1⟩, z⟩
set_option maxRecDepth 100000 in
set_option maxHeartbeats 8000000 in
theorem clash_any (k c q : Int) (a b o v : ByteArray) (k' c' q' : Int) (a' b' o' v' : ByteArray) (w : World) (ha : a.size ≤ 140737488355328) (ha' : a'.size ≤ 140737488355328) :
    Calls Try.prog 10 #[.agg #[.int .i64 k, .int .i64 c, .int .i64 q, .string a, .string b, .string o, .string v], .agg #[.int .i64 k', .int .i64 c', .int .i64 q', .string a', .string b', .string o', .string v']] w
      fun e w' => e = .returned (.bool (clashC ⟨k, c, q, a, b, o, v⟩ ⟨k', c', q', a', b', o', v'⟩)) ∧ Below w.heap.size w w' := by
  have hk1 := fun w1 => keys_any k c q a b o v w1 ha
  have hk2 := fun w1 => keys_any k' c' q' a' b' o' v' w1 ha'
  have hw1 := fun w1 => writes_any k c q a b o v w1
  have hw2 := fun w1 => writes_any k' c' q' a' b' o' v' w1
  unfold clashC
  unfold keysV at hk1 hk2
  have st : Both w ((w.alloc (.cells #[.int .i64 k, .int .i64 c, .int .i64 q, .string a, .string b, .string o, .string v] 23)).alloc (.cells #[.int .i64 k', .int .i64 c', .int .i64 q', .string a', .string b', .string o', .string v'] 23)) ⟨k, c, q, a, b, o, v⟩ ⟨k', c', q', a', b', o', v'⟩ :=
    Both.start w ⟨k, c, q, a, b, o, v⟩ ⟨k', c', q', a', b', o', v'⟩ 23
  simp only at hk1 hk2 ⊢
  generalize loC ⟨k, c, q, a, b, o, v⟩ = l1 at *
  generalize hiC ⟨k, c, q, a, b, o, v⟩ = h1 at *
  generalize loC ⟨k', c', q', a', b', o', v'⟩ = l2 at *
  generalize hiC ⟨k', c', q', a', b', o', v'⟩ = h2 at *
  generalize hasC k = p at *
  generalize hasC k' = p' at *
  generalize writesC k = r at *
  generalize writesC k' = r' at *
  have K1 := hide hk1
  have K2 := hide hk2
  have W1 := hide hw1
  have W2 := hide hw2
  have ST := hide st
  clear hk1 hk2 hw1 hw2 ha ha' st
  go_enter Try.func10, Try.ntmps10
  go_upto_region 2 with (go_at_call 13; (with_reducible refine (K1.out _).mono ?_); rintro e w1 ⟨rfl, hb1⟩; have st1 := hide (ST.out.step hb1); clear hb1)
  have st2 := hide (show Both1 w _ _ _ w1.heap.size l1 h1 from ⟨st1.out.step ((Below.refl _ _).alloc (Nat.le_refl _) (.cells #[.string l1, .string h1] 31)), Two.new w1 l1 h1 31⟩)
  generalize w1.heap.size = g1 at *
  generalize w1.alloc (.cells #[.string l1, .string h1] 31) = w2 at *
  obtain ⟨b0, b1, b2, b3, b4, b5, b6⟩ := st2.out.s.b.cells
  go_upto_region 3 with (go_at_call 13; (with_reducible refine (K2.out _).mono ?_); rintro e w3 ⟨rfl, hb3⟩; have st3 := hide (st2.out.step hb3); clear hb3)
  have st4 := hide (show Both2 w _ _ _ g1 l1 h1 w3.heap.size l2 h2 from ⟨st3.out.step ((Below.refl _ _).alloc (Nat.le_refl _) (.cells #[.string l2, .string h2] 31)), Two.new w3 l2 h2 31⟩)
  generalize w3.heap.size = g2 at *
  generalize w3.alloc (.cells #[.string l2, .string h2] 31) = w4 at *
  obtain ⟨A0, A1, A2, A3, A4, A5, A6⟩ := st4.out.s.s.a.cells
  obtain ⟨B0, B1, B2, B3, B4, B5, B6⟩ := st4.out.s.s.b.cells
  have C0 := st4.out.s.t.c0
  have C1 := st4.out.s.t.c1
  have C2 := st4.out.t.c0
  have C3 := st4.out.t.c1
  simp only at A0 A1 A2 A3 A4 A5 A6 B0 B1 B2 B3 B4 B5 B6
  clear b0 b1 b2 b3 b4 b5 b6
  have old4 := st4.out.s.s.old
  have st := st4.out
  clear st1 st2 st3 st4 ST
  go_wp2_with (first
    | (go_at_call 17; (with_reducible refine (Both2.call (by with_reducible assumption) (W1.out _)).mono ?_); rintro e w5 ⟨rfl, ⟨A0, A1, A2, A3, A4, A5, A6⟩, ⟨B0, B1, B2, B3, B4, B5, B6⟩, ⟨C0, C1, C2, C3⟩, st⟩; simp only at A0 A1 A2 A3 A4 A5 A6 B0 B1 B2 B3 B4 B5 B6; have old4 := st.s.s.old)
    | (go_at_call 17; (with_reducible refine (Both2.call (by with_reducible assumption) (W2.out _)).mono ?_); rintro e w5 ⟨rfl, ⟨A0, A1, A2, A3, A4, A5, A6⟩, ⟨B0, B1, B2, B3, B4, B5, B6⟩, ⟨C0, C1, C2, C3⟩, st⟩; simp only at A0 A1 A2 A3 A4 A5 A6 B0 B1 B2 B3 B4 B5 B6; have old4 := st.s.s.old)
    | (go_at_call 27; (with_reducible refine (Both2.call (by with_reducible assumption) (meets_any l1 h1 l2 h2 _)).mono ?_); rintro e w5 ⟨rfl, ⟨A0, A1, A2, A3, A4, A5, A6⟩, ⟨B0, B1, B2, B3, B4, B5, B6⟩, ⟨C0, C1, C2, C3⟩, st⟩; have old4 := st.s.s.old))
  all_goals go_ret
  all_goals exact ⟨ret_bool (by simp [*] <;> simp_all), by with_reducible assumption⟩
end Go.Proofs.Ytigbplmfhnamkaa
