/- Proved: the law CmdMirrors returns true. Conditions: none beyond the row's own. -/
import Derived.Test.YtigbplmfhnamkaaFrame
import Derived.Test.YtigbplmfhnamkaaRuns
import Derived.Test.YtigbplmfhnamkaaRz
import Derived.Test.YtigbplmfhnamkaaCm
import Derived.Deep.DeepCutAuto
import Derived.Deep.RegionHeld3
namespace Go.Proofs.Ytigbplmfhnamkaa.cmdMirrors
open Go.ChangeShapes Go.WideShapes Go.ChangeAt Go.RowKit
theorem Row.drew {w : World} {g : Nat} {t : TypeId} {cs : Array Value} (h : Row w g t cs) : Row w.drew g t cs := h
/-- The two commands, the zero one, and what was there. -/
structure Mir (W w : World) (x y : Cm) : Prop where
  a : Row w W.heap.size 23 (rowC x)
  b : Row w (W.heap.size + 1) 23 (rowC y)
  z : Row w (W.heap.size + 1 + 1) 23 (rowC ⟨0, 0, 0, ⟨#[]⟩, ⟨#[]⟩, ⟨#[]⟩, ⟨#[]⟩⟩)
  old : Below W.heap.size W w
section
variable {W w w' : World} {x y : Cm}
theorem Mir.drew (s : Mir W w x y) : Mir W w.drew x y := ⟨s.a, s.b, s.z, s.old.drew⟩
theorem Mir.step (s : Mir W w x y) (hb : Below w.heap.size w w') : Mir W w' x y := ⟨s.a.below hb s.a.lt, s.b.below hb s.b.lt, s.z.below hb s.z.lt, s.old.trans (hb.mono s.old.size)⟩
theorem Mir.call {P : Program} {F : FuncId} {args : Array Value} {u : Value} (s : Mir W w x y) (hf : Calls P F args w fun e w' => e = .returned u ∧ Below w.heap.size w w') :
    Calls P F args w fun e w' => e = .returned u ∧ Cells7 w' W.heap.size x ∧ Cells7 w' (W.heap.size + 1) y ∧ Cells7 w' (W.heap.size + 1 + 1) ⟨0, 0, 0, ⟨#[]⟩, ⟨#[]⟩, ⟨#[]⟩, ⟨#[]⟩⟩ ∧ Mir W w' x y :=
  hf.mono fun _ _ ⟨he, hb⟩ => have s' := s.step hb; ⟨he, s'.a.cells7, s'.b.cells7, s'.z.cells7, s'⟩
theorem Mir.puts (s : Mir W w x y) (n : Int) : Mir W ((w.setCell ⟨W.heap.size, 1, none⟩ (.int .i64 n)).setCell ⟨W.heap.size + 1, 1, none⟩ (.int .i64 n)) { x with c := n } { y with c := n } :=
  ⟨(Below.heap_setCell _ ⟨W.heap.size + 1, 1, none⟩ _ W.heap.size (by show W.heap.size ≠ W.heap.size + 1; omega)).trans (s.a.put 1 (.int .i64 n)),
    Row.put (cs := rowC y) ((Below.heap_setCell w ⟨W.heap.size, 1, none⟩ _ (W.heap.size + 1) (by show W.heap.size + 1 ≠ W.heap.size; omega)).trans s.b) 1 (.int .i64 n),
    (Below.heap_setCell _ ⟨W.heap.size + 1, 1, none⟩ _ (W.heap.size + 1 + 1) (by show W.heap.size + 1 + 1 ≠ W.heap.size + 1; omega)).trans ((Below.heap_setCell _ ⟨W.heap.size, 1, none⟩ _ (W.heap.size + 1 + 1) (by show W.heap.size + 1 + 1 ≠ W.heap.size; omega)).trans s.z),
    (s.old.setCell (Nat.le_refl _) _).setCell (by show W.heap.size ≤ W.heap.size + 1; omega) _⟩
theorem Mir.start (W : World) (x y : Cm) : Mir W (((W.alloc (.cells (rowC x) 23)).alloc (.cells (rowC y) 23)).alloc (.cells (rowC ⟨0, 0, 0, ⟨#[]⟩, ⟨#[]⟩, ⟨#[]⟩, ⟨#[]⟩⟩) 23)) x y := by
  have a1 := Row.new W 23 (rowC x)
  have a2 := a1.below ((Below.refl _ _).alloc (Nat.le_refl _) (.cells (rowC y) 23)) a1.lt
  have b2 := Row.new (W.alloc (.cells (rowC x) 23)) 23 (rowC y)
  have hb := (Below.refl ((W.alloc (.cells (rowC x) 23)).alloc (.cells (rowC y) 23)).heap.size _).alloc (Nat.le_refl _) (.cells (rowC ⟨0, 0, 0, ⟨#[]⟩, ⟨#[]⟩, ⟨#[]⟩, ⟨#[]⟩⟩) 23)
  have c3 := Row.new ((W.alloc (.cells (rowC x) 23)).alloc (.cells (rowC y) 23)) 23 (rowC ⟨0, 0, 0, ⟨#[]⟩, ⟨#[]⟩, ⟨#[]⟩, ⟨#[]⟩⟩)
  simp only [World.size_alloc] at b2 c3
  refine ⟨a2.below hb a2.lt, b2.below hb (by simp), c3, ?_⟩
  repeat' first | exact Below.refl _ _ | refine bit_alloc ?_ (Nat.le_refl _) _
end
theorem beq_turn (a b : Int) : (a == b) = (b == a) := by rw [Bool.eq_iff_iff, beq_iff_eq, beq_iff_eq]; exact ⟨Eq.symm, Eq.symm⟩
theorem clash_turn (x y : Cm) : clashC x y = clashC y x := by
  unfold clashC
  rw [meet_swap, beq_turn x.c y.c, Bool.and_comm (hasC x.k), Bool.or_comm (writesC x.k)]
theorem clash_zero (x : Cm) : clashC x ⟨0, 0, 0, ⟨#[]⟩, ⟨#[]⟩, ⟨#[]⟩, ⟨#[]⟩⟩ = false := by
  unfold clashC
  have h : hasC 0 = false := by decide
  simp [h]
theorem clash_self {x : Cm} (h : writesC x.k = true) : clashC x x = true := by
  unfold clashC
  unfold writesC at h
  simp only [Bool.and_eq_true, decide_eq_true_eq] at h
  have h2 : hasC x.k = true := by unfold hasC; rw [decide_eq_true (by omega), decide_eq_true (by omega)]; rfl
  rw [h2]; simp
theorem clash_one {x y : Cm} (h : x.c = y.c) : clashC x y = (hasC x.k && hasC y.k) := by
  unfold clashC; rw [h]; simp
set_option linter.unusedSimpArgs false in
set_option maxRecDepth 100000 in
set_option maxHeartbeats 16000000 in
theorem walk (x y : Cm) (n : Int) (W : World) (s : CmOk x) (t : CmOk y) (_hn : -9223372036854775808 ≤ n ∧ n ≤ 9223372036854775807) :
    Calls Try.prog 7 #[.agg #[.int .i64 x.k, .int .i64 x.c, .int .i64 x.q, .string x.key, .string x.en, .string x.old, .string x.val], .agg #[.int .i64 y.k, .int .i64 y.c, .int .i64 y.q, .string y.key, .string y.en, .string y.old, .string y.val], .int .i64 n] W
      fun e w' => e = .returned (.bool true) ∧ Below W.heap.size W w' := by
  obtain ⟨k, c, q, a, b, o, v⟩ := x
  obtain ⟨k', c', q', a', b', o', v'⟩ := y
  have ha := s.key
  have ha' := t.key
  simp only at ha ha' ⊢
  have hk1 := fun w1 => keys_any k c q a b o v w1 (by omega)
  have hk2 := fun w1 => keys_any k' c' q' a' b' o' v' w1 (by omega)
  have hw := fun w1 => writes_any k c q a b o v w1
  have hc1 := fun w1 => clash_any k c q a b o v k' c' q' a' b' o' v' w1 (by omega) (by omega)
  have hc2 := fun w1 => clash_any k' c' q' a' b' o' v' k c q a b o v w1 (by omega) (by omega)
  have hc3 := fun w1 => clash_is (r := false) w1 (clash_zero ⟨k, c, q, a, b, o, v⟩) (by omega) (by decide)
  have hc4 := fun w1 => clash_is (r := false) w1 (show clashC ⟨0, 0, 0, ⟨#[]⟩, ⟨#[]⟩, ⟨#[]⟩, ⟨#[]⟩⟩ ⟨k, c, q, a, b, o, v⟩ = false by rw [clash_turn]; exact clash_zero _) (by decide) (by omega)
  have hc6 := fun w1 => clash_is w1 (show clashC ⟨k, n, q, a, b, o, v⟩ ⟨k', n, q', a', b', o', v'⟩ = (hasC k && hasC k') from clash_one rfl) (by omega) (by omega)
  rw [clash_turn ⟨k', c', q', a', b', o', v'⟩] at hc2
  have hself := fun (h : writesC k = true) w1 => clash_is w1 (clash_self (x := ⟨k, c, q, a, b, o, v⟩) h) (by omega) (by omega)
  unfold keysV at hk1 hk2
  have st : Mir W (((W.alloc (.cells #[.int .i64 k, .int .i64 c, .int .i64 q, .string a, .string b, .string o, .string v] 23)).alloc (.cells #[.int .i64 k', .int .i64 c', .int .i64 q', .string a', .string b', .string o', .string v'] 23)).alloc (.cells #[.int .i64 0, .int .i64 0, .int .i64 0, .string ⟨#[]⟩, .string ⟨#[]⟩, .string ⟨#[]⟩, .string ⟨#[]⟩] 23)) ⟨k, c, q, a, b, o, v⟩ ⟨k', c', q', a', b', o', v'⟩ := Mir.start W ⟨k, c, q, a, b, o, v⟩ ⟨k', c', q', a', b', o', v'⟩
  simp only at hk1 hk2
  generalize clashC ⟨k, c, q, a, b, o, v⟩ ⟨k', c', q', a', b', o', v'⟩ = cl at *
  generalize loC ⟨k, c, q, a, b, o, v⟩ = l at *
  generalize hiC ⟨k, c, q, a, b, o, v⟩ = h at *
  generalize loC ⟨k', c', q', a', b', o', v'⟩ = l' at *
  generalize hiC ⟨k', c', q', a', b', o', v'⟩ = h' at *
  generalize hasC k = p at *
  generalize hasC k' = p' at *
  obtain ⟨q0, q1, q2, q3, q4, q5, q6⟩ := st.a.cells7
  obtain ⟨r0, r1, r2, r3, r4, r5, r6⟩ := st.b.cells7
  obtain ⟨z0, z1, z2, z3, z4, z5, z6⟩ := st.z.cells7
  simp only at q0 q1 q2 q3 q4 q5 q6 r0 r1 r2 r3 r4 r5 r6 z0 z1 z2 z3 z4 z5 z6
  have K1 := hide hk1
  have K2 := hide hk2
  have C1 := hide hc1
  have C2 := hide hc2
  have C3 := hide hc3
  have C4 := hide hc4
  have C6 := hide hc6
  have HS := hide hself
  have HW0 := hide hw
  clear hk1 hk2 hc1 hc2 hc3 hc4 hc6 hself hw ha ha' s t
  go_enter Try.func7, Try.ntmps7
  go_upto_region 2 with (fail)
  generalize ((W.alloc (.cells #[.int .i64 k, .int .i64 c, .int .i64 q, .string a, .string b, .string o, .string v] 23)).alloc (.cells #[.int .i64 k', .int .i64 c', .int .i64 q', .string a', .string b', .string o', .string v'] 23)).alloc (.cells #[.int .i64 0, .int .i64 0, .int .i64 0, .string ⟨#[]⟩, .string ⟨#[]⟩, .string ⟨#[]⟩, .string ⟨#[]⟩] 23) = w2 at *
  go_cut [39] (fun s39 wx => s39 = .bool false ∧ Mir W wx ⟨k, c, q, a, b, o, v⟩ ⟨k', c', q', a', b', o', v'⟩)
  case first =>
    cases hu : writesC k
    · have hw := HW0.out
      rw [hu] at hw
      have HW := hide hw
      clear hw hu HW0 HS
      refine wp_region_noPanic ?_
      refine wp_region_held_drew (S := (fun w' => w'.cell? ⟨W.heap.size, 0, none⟩ = some (.int .i64 k) ∧ w'.cell? ⟨W.heap.size, 1, none⟩ = some (.int .i64 c) ∧ w'.cell? ⟨W.heap.size, 2, none⟩ = some (.int .i64 q) ∧ w'.cell? ⟨W.heap.size, 3, none⟩ = some (.string a) ∧ w'.cell? ⟨W.heap.size, 4, none⟩ = some (.string b) ∧ w'.cell? ⟨W.heap.size, 5, none⟩ = some (.string o) ∧ w'.cell? ⟨W.heap.size, 6, none⟩ = some (.string v) ∧ w'.cell? ⟨W.heap.size + 1, 0, none⟩ = some (.int .i64 k') ∧ w'.cell? ⟨W.heap.size + 1, 1, none⟩ = some (.int .i64 c') ∧ w'.cell? ⟨W.heap.size + 1, 2, none⟩ = some (.int .i64 q') ∧ w'.cell? ⟨W.heap.size + 1, 3, none⟩ = some (.string a') ∧ w'.cell? ⟨W.heap.size + 1, 4, none⟩ = some (.string b') ∧ w'.cell? ⟨W.heap.size + 1, 5, none⟩ = some (.string o') ∧ w'.cell? ⟨W.heap.size + 1, 6, none⟩ = some (.string v') ∧ w'.cell? ⟨W.heap.size + 1 + 1, 0, none⟩ = some (.int .i64 0) ∧ w'.cell? ⟨W.heap.size + 1 + 1, 1, none⟩ = some (.int .i64 0) ∧ w'.cell? ⟨W.heap.size + 1 + 1, 2, none⟩ = some (.int .i64 0) ∧ w'.cell? ⟨W.heap.size + 1 + 1, 3, none⟩ = some (.string ⟨#[]⟩) ∧ w'.cell? ⟨W.heap.size + 1 + 1, 4, none⟩ = some (.string ⟨#[]⟩) ∧ w'.cell? ⟨W.heap.size + 1 + 1, 5, none⟩ = some (.string ⟨#[]⟩) ∧ w'.cell? ⟨W.heap.size + 1 + 1, 6, none⟩ = some (.string ⟨#[]⟩))) (by kernel_rfl) ?_ (fun hHeld => ?_)
      · (try dsimp only)
        go_keep
      refine wpAnyH_take (i := 0) (v := ?hgv0) rfl (by kernel_rfl) (by kernel_rfl) (by kernel_rfl) (fun _ _ _ h => h) (Or.inl ⟨by rfl, ?hgy0⟩) hHeld ?hgr0
      case hgy0 => (intro w hSw; (try dsimp only at hSw); go_simp; all_goals (with_reducible rfl))
      try simp only [List.getElem_toArray, List.getElem_cons_succ, List.getElem_cons_zero, Act.put, List.setIfInBounds_toArray, List.set_cons_zero, List.set_cons_succ]
      refine wpAnyH_take (i := 1) (v := ?hgv1) rfl (by kernel_rfl) (by kernel_rfl) (by kernel_rfl) (fun _ _ _ h => h) (Or.inl ⟨by rfl, ?hgy1⟩) hHeld ?hgr1
      case hgy1 => (intro w hSw; (try dsimp only at hSw); go_simp; all_goals (with_reducible rfl))
      try simp only [List.getElem_toArray, List.getElem_cons_succ, List.getElem_cons_zero, Act.put, List.setIfInBounds_toArray, List.set_cons_zero, List.set_cons_succ]
      refine wpAnyH_take (i := 3) (v := ?hgv3) rfl (by kernel_rfl) (by kernel_rfl) (by kernel_rfl) (fun _ _ _ h => h) (Or.inl ⟨by rfl, ?hgy3⟩) hHeld ?hgr3
      case hgy3 => (intro w hSw; (try dsimp only at hSw); go_simp; all_goals (with_reducible rfl))
      try simp only [List.getElem_toArray, List.getElem_cons_succ, List.getElem_cons_zero, Act.put, List.setIfInBounds_toArray, List.set_cons_zero, List.set_cons_succ]
      refine wpAnyH_take (i := 4) (v := ?hgv4) rfl (by kernel_rfl) (by kernel_rfl) (by kernel_rfl) (fun _ _ _ h => h) (Or.inl ⟨by rfl, ?hgy4⟩) hHeld ?hgr4
      case hgy4 => (intro w hSw; (try dsimp only at hSw); go_simp; all_goals (with_reducible rfl))
      try simp only [List.getElem_toArray, List.getElem_cons_succ, List.getElem_cons_zero, Act.put, List.setIfInBounds_toArray, List.set_cons_zero, List.set_cons_succ]
      refine wpAnyH_ready (rs := [2]) (by kernel_rfl) (by simp) ?_
      refine AllReadyH.cons rfl (fun K hK => ?_) AllReadyH.nil
      go_simp
      (go_at_call 10; (with_reducible refine (Mir.call (W := W) (x := ⟨k, c, q, a, b, o, v⟩) (y := ⟨k', c', q', a', b', o', v'⟩) (by first | with_reducible assumption | with_reducible exact Mir.drew (by with_reducible assumption)) (C1.out _)).mono ?_); rintro e w' ⟨rfl, ⟨q0, q1, q2, q3, q4, q5, q6⟩, ⟨r0, r1, r2, r3, r4, r5, r6⟩, ⟨z0, z1, z2, z3, z4, z5, z6⟩, st'⟩; simp only at q0 q1 q2 q3 q4 q5 q6 r0 r1 r2 r3 r4 r5 r6 z0 z1 z2 z3 z4 z5 z6)
      refine hK.out _ _ ?_ (fun hHeld => ?_)
      · (try dsimp only)
        go_keep
      clear hK K
      try simp only [List.getElem_toArray, List.getElem_cons_succ, List.getElem_cons_zero, Act.put, List.setIfInBounds_toArray, List.set_cons_zero, List.set_cons_succ]
      refine wpAnyH_ready (rs := [5]) (by kernel_rfl) (by simp) ?_
      refine AllReadyH.cons rfl (fun K hK => ?_) AllReadyH.nil
      go_simp
      (go_at_call 10; (with_reducible refine (Mir.call (W := W) (x := ⟨k, c, q, a, b, o, v⟩) (y := ⟨k', c', q', a', b', o', v'⟩) (by first | with_reducible assumption | with_reducible exact Mir.drew (by with_reducible assumption)) (C2.out _)).mono ?_); rintro e w' ⟨rfl, ⟨q0, q1, q2, q3, q4, q5, q6⟩, ⟨r0, r1, r2, r3, r4, r5, r6⟩, ⟨z0, z1, z2, z3, z4, z5, z6⟩, st'⟩; simp only at q0 q1 q2 q3 q4 q5 q6 r0 r1 r2 r3 r4 r5 r6 z0 z1 z2 z3 z4 z5 z6)
      refine hK.out _ _ ?_ (fun hHeld => ?_)
      · (try dsimp only)
        go_keep
      clear hK K
      try simp only [List.getElem_toArray, List.getElem_cons_succ, List.getElem_cons_zero, Act.put, List.setIfInBounds_toArray, List.set_cons_zero, List.set_cons_succ]
      refine wpAnyH_take (i := 6) (v := ?hgv6) rfl (by kernel_rfl) (by kernel_rfl) (by kernel_rfl) (fun _ _ _ h => h) (Or.inl ⟨by rfl, ?hgy6⟩) hHeld ?hgr6
      case hgy6 => (intro w hSw; (try dsimp only at hSw); go_simp; all_goals (with_reducible rfl))
      try simp only [List.getElem_toArray, List.getElem_cons_succ, List.getElem_cons_zero, Act.put, List.setIfInBounds_toArray, List.set_cons_zero, List.set_cons_succ]
      refine wpAnyH_take (i := 7) (v := ?hgv7) rfl (by kernel_rfl) (by kernel_rfl) (by kernel_rfl) (fun _ _ _ h => h) (Or.inl ⟨by rfl, ?hgy7⟩) hHeld ?hgr7
      case hgy7 => (intro w hSw; (try dsimp only at hSw); go_simp; all_goals (with_reducible rfl))
      try simp only [List.getElem_toArray, List.getElem_cons_succ, List.getElem_cons_zero, Act.put, List.setIfInBounds_toArray, List.set_cons_zero, List.set_cons_succ]
      refine wpAnyH_take (i := 8) (v := ?hgv8) rfl (by kernel_rfl) (by kernel_rfl) (by kernel_rfl) (fun _ _ _ h => h) (Or.inl ⟨by rfl, ?hgy8⟩) hHeld ?hgr8
      case hgy8 => (intro w hSw; (try dsimp only at hSw); go_simp; all_goals (with_reducible rfl))
      try simp only [List.getElem_toArray, List.getElem_cons_succ, List.getElem_cons_zero, Act.put, List.setIfInBounds_toArray, List.set_cons_zero, List.set_cons_succ]
      refine wpAnyH_take (i := 9) (v := ?hgv9) rfl (by kernel_rfl) (by kernel_rfl) (by kernel_rfl) (fun _ _ _ h => h) (Or.inl ⟨by rfl, ?hgy9⟩) hHeld ?hgr9
      case hgy9 => (intro w hSw; (try dsimp only at hSw); go_simp; all_goals (with_reducible rfl))
      try simp only [List.getElem_toArray, List.getElem_cons_succ, List.getElem_cons_zero, Act.put, List.setIfInBounds_toArray, List.set_cons_zero, List.set_cons_succ]
      refine wpAnyH_ready (rs := [10]) (by kernel_rfl) (by simp) ?_
      refine AllReadyH.cons rfl (fun K hK => ?_) AllReadyH.nil
      go_simp
      (go_at_call 10; (with_reducible refine (Mir.call (W := W) (x := ⟨k, c, q, a, b, o, v⟩) (y := ⟨k', c', q', a', b', o', v'⟩) (by first | with_reducible assumption | with_reducible exact Mir.drew (by with_reducible assumption)) (C3.out _)).mono ?_); rintro e w' ⟨rfl, ⟨q0, q1, q2, q3, q4, q5, q6⟩, ⟨r0, r1, r2, r3, r4, r5, r6⟩, ⟨z0, z1, z2, z3, z4, z5, z6⟩, st'⟩; simp only at q0 q1 q2 q3 q4 q5 q6 r0 r1 r2 r3 r4 r5 r6 z0 z1 z2 z3 z4 z5 z6)
      refine hK.out _ _ ?_ (fun hHeld => ?_)
      · (try dsimp only)
        go_keep
      clear hK K
      try simp only [List.getElem_toArray, List.getElem_cons_succ, List.getElem_cons_zero, Act.put, List.setIfInBounds_toArray, List.set_cons_zero, List.set_cons_succ]
      refine wpAnyH_take (i := 11) (v := ?hgv11) rfl (by kernel_rfl) (by kernel_rfl) (by kernel_rfl) (fun _ _ _ h => h) (Or.inl ⟨by rfl, ?hgy11⟩) hHeld ?hgr11
      case hgy11 => (intro w hSw; (try dsimp only at hSw); go_simp; all_goals (with_reducible rfl))
      try simp only [List.getElem_toArray, List.getElem_cons_succ, List.getElem_cons_zero, Act.put, List.setIfInBounds_toArray, List.set_cons_zero, List.set_cons_succ]
      refine wpAnyH_take (i := 12) (v := ?hgv12) rfl (by kernel_rfl) (by kernel_rfl) (by kernel_rfl) (fun _ _ _ h => h) (Or.inl ⟨by rfl, ?hgy12⟩) hHeld ?hgr12
      case hgy12 => (intro w hSw; (try dsimp only at hSw); go_simp; all_goals (with_reducible rfl))
      try simp only [List.getElem_toArray, List.getElem_cons_succ, List.getElem_cons_zero, Act.put, List.setIfInBounds_toArray, List.set_cons_zero, List.set_cons_succ]
      refine wpAnyH_take (i := 13) (v := ?hgv13) rfl (by kernel_rfl) (by kernel_rfl) (by kernel_rfl) (fun _ _ _ h => h) (Or.inl ⟨by rfl, ?hgy13⟩) hHeld ?hgr13
      case hgy13 => (intro w hSw; (try dsimp only at hSw); go_simp; all_goals (with_reducible rfl))
      try simp only [List.getElem_toArray, List.getElem_cons_succ, List.getElem_cons_zero, Act.put, List.setIfInBounds_toArray, List.set_cons_zero, List.set_cons_succ]
      refine wpAnyH_take (i := 14) (v := ?hgv14) rfl (by kernel_rfl) (by kernel_rfl) (by kernel_rfl) (fun _ _ _ h => h) (Or.inl ⟨by rfl, ?hgy14⟩) hHeld ?hgr14
      case hgy14 => (intro w hSw; (try dsimp only at hSw); go_simp; all_goals (with_reducible rfl))
      try simp only [List.getElem_toArray, List.getElem_cons_succ, List.getElem_cons_zero, Act.put, List.setIfInBounds_toArray, List.set_cons_zero, List.set_cons_succ]
      refine wpAnyH_ready (rs := [15]) (by kernel_rfl) (by simp) ?_
      refine AllReadyH.cons rfl (fun K hK => ?_) AllReadyH.nil
      go_simp
      (go_at_call 10; (with_reducible refine (Mir.call (W := W) (x := ⟨k, c, q, a, b, o, v⟩) (y := ⟨k', c', q', a', b', o', v'⟩) (by first | with_reducible assumption | with_reducible exact Mir.drew (by with_reducible assumption)) (C4.out _)).mono ?_); rintro e w' ⟨rfl, ⟨q0, q1, q2, q3, q4, q5, q6⟩, ⟨r0, r1, r2, r3, r4, r5, r6⟩, ⟨z0, z1, z2, z3, z4, z5, z6⟩, st'⟩; simp only at q0 q1 q2 q3 q4 q5 q6 r0 r1 r2 r3 r4 r5 r6 z0 z1 z2 z3 z4 z5 z6)
      refine hK.out _ _ ?_ (fun hHeld => ?_)
      · (try dsimp only)
        go_keep
      clear hK K
      try simp only [List.getElem_toArray, List.getElem_cons_succ, List.getElem_cons_zero, Act.put, List.setIfInBounds_toArray, List.set_cons_zero, List.set_cons_succ]
      refine wpAnyH_take (i := 16) (v := ?hgv16) rfl (by kernel_rfl) (by kernel_rfl) (by kernel_rfl) (fun _ _ _ h => h) (Or.inl ⟨by rfl, ?hgy16⟩) hHeld ?hgr16
      case hgy16 => (intro w hSw; (try dsimp only at hSw); go_simp; all_goals (with_reducible rfl))
      try simp only [List.getElem_toArray, List.getElem_cons_succ, List.getElem_cons_zero, Act.put, List.setIfInBounds_toArray, List.set_cons_zero, List.set_cons_succ]
      refine wpAnyH_take (i := 17) (v := ?hgv17) rfl (by kernel_rfl) (by kernel_rfl) (by kernel_rfl) (fun _ _ _ h => h) (Or.inl ⟨by rfl, ?hgy17⟩) hHeld ?hgr17
      case hgy17 => (intro w hSw; (try dsimp only at hSw); go_simp; all_goals (with_reducible rfl))
      try simp only [List.getElem_toArray, List.getElem_cons_succ, List.getElem_cons_zero, Act.put, List.setIfInBounds_toArray, List.set_cons_zero, List.set_cons_succ]
      refine wpAnyH_take (i := 18) (v := ?hgv18) rfl (by kernel_rfl) (by kernel_rfl) (by kernel_rfl) (fun _ _ _ h => h) (Or.inl ⟨by rfl, ?hgy18⟩) hHeld ?hgr18
      case hgy18 => (intro w hSw; (try dsimp only at hSw); go_simp; all_goals (with_reducible rfl))
      try simp only [List.getElem_toArray, List.getElem_cons_succ, List.getElem_cons_zero, Act.put, List.setIfInBounds_toArray, List.set_cons_zero, List.set_cons_succ]
      refine wpAnyH_ready (rs := [19]) (by kernel_rfl) (by simp) ?_
      refine AllReadyH.cons rfl (fun K hK => ?_) AllReadyH.nil
      go_simp
      (go_at_call 17; (with_reducible refine (Mir.call (W := W) (x := ⟨k, c, q, a, b, o, v⟩) (y := ⟨k', c', q', a', b', o', v'⟩) (by first | with_reducible assumption | with_reducible exact Mir.drew (by with_reducible assumption)) (HW.out _)).mono ?_); rintro e w' ⟨rfl, ⟨q0, q1, q2, q3, q4, q5, q6⟩, ⟨r0, r1, r2, r3, r4, r5, r6⟩, ⟨z0, z1, z2, z3, z4, z5, z6⟩, st'⟩; simp only at q0 q1 q2 q3 q4 q5 q6 r0 r1 r2 r3 r4 r5 r6 z0 z1 z2 z3 z4 z5 z6)
      refine hK.out _ _ ?_ (fun hHeld => ?_)
      · (try dsimp only)
        go_keep
      clear hK K
      try simp only [List.getElem_toArray, List.getElem_cons_succ, List.getElem_cons_zero, Act.put, List.setIfInBounds_toArray, List.set_cons_zero, List.set_cons_succ]
      refine wpAnyH_take (i := 20) (v := ?hgv20) rfl (by kernel_rfl) (by kernel_rfl) (by kernel_rfl) (fun _ _ _ h => h) (Or.inl ⟨by rfl, ?hgy20⟩) hHeld ?hgr20
      case hgy20 => (intro w hSw; (try dsimp only at hSw); go_simp; all_goals (with_reducible rfl))
      try simp only [List.getElem_toArray, List.getElem_cons_succ, List.getElem_cons_zero, Act.put, List.setIfInBounds_toArray, List.set_cons_zero, List.set_cons_succ]
      refine wpAnyH_take (i := 21) (v := undef) rfl (by kernel_rfl) (by kernel_rfl) (by kernel_rfl) (fun _ _ _ h => h) (Or.inr ⟨by rfl, rfl⟩) hHeld ?_
      try simp only [List.getElem_toArray, List.getElem_cons_succ, List.getElem_cons_zero, Act.put, List.setIfInBounds_toArray, List.set_cons_zero, List.set_cons_succ]
      refine wpAnyH_take (i := 22) (v := undef) rfl (by kernel_rfl) (by kernel_rfl) (by kernel_rfl) (fun _ _ _ h => h) (Or.inr ⟨by rfl, rfl⟩) hHeld ?_
      try simp only [List.getElem_toArray, List.getElem_cons_succ, List.getElem_cons_zero, Act.put, List.setIfInBounds_toArray, List.set_cons_zero, List.set_cons_succ]
      refine wpAnyH_take (i := 23) (v := undef) rfl (by kernel_rfl) (by kernel_rfl) (by kernel_rfl) (fun _ _ _ h => h) (Or.inr ⟨by rfl, rfl⟩) hHeld ?_
      try simp only [List.getElem_toArray, List.getElem_cons_succ, List.getElem_cons_zero, Act.put, List.setIfInBounds_toArray, List.set_cons_zero, List.set_cons_succ]
      refine wpAnyH_take (i := 24) (v := undef) rfl (by kernel_rfl) (by kernel_rfl) (by kernel_rfl) (fun _ _ _ h => h) (Or.inr ⟨by rfl, rfl⟩) hHeld ?_
      try simp only [List.getElem_toArray, List.getElem_cons_succ, List.getElem_cons_zero, Act.put, List.setIfInBounds_toArray, List.set_cons_zero, List.set_cons_succ]
      refine wpAnyH_take (i := 25) (v := ?hgv25) rfl (by kernel_rfl) (by kernel_rfl) (by kernel_rfl) (fun _ _ _ h => h) (Or.inl ⟨by rfl, ?hgy25⟩) hHeld ?hgr25
      case hgy25 => (intro w hSw; (try dsimp only at hSw); go_simp; all_goals (with_reducible rfl))
      try simp only [List.getElem_toArray, List.getElem_cons_succ, List.getElem_cons_zero, Act.put, List.setIfInBounds_toArray, List.set_cons_zero, List.set_cons_succ]
      refine wpAnyH_take (i := 26) (v := ?hgv26) rfl (by kernel_rfl) (by kernel_rfl) (by kernel_rfl) (fun _ _ _ h => h) (Or.inl ⟨by rfl, ?hgy26⟩) hHeld ?hgr26
      case hgy26 => (intro w hSw; (try dsimp only at hSw); go_simp; all_goals (with_reducible rfl))
      try simp only [List.getElem_toArray, List.getElem_cons_succ, List.getElem_cons_zero, Act.put, List.setIfInBounds_toArray, List.set_cons_zero, List.set_cons_succ]
      refine wpAnyH_done (by kernel_rfl) ?_ _
      refine NoPanic.normal ?_
      go_wp2
      go_meet
      exact ⟨rfl, by with_reducible assumption⟩
    · have hw := HW0.out
      rw [hu] at hw
      have HW := hide hw
      have C5 := hide (HS.out hu)
      clear hw hu HW0 HS
      go_region_held3 (fun w' => w'.cell? ⟨W.heap.size, 0, none⟩ = some (.int .i64 k) ∧ w'.cell? ⟨W.heap.size, 1, none⟩ = some (.int .i64 c) ∧ w'.cell? ⟨W.heap.size, 2, none⟩ = some (.int .i64 q) ∧ w'.cell? ⟨W.heap.size, 3, none⟩ = some (.string a) ∧ w'.cell? ⟨W.heap.size, 4, none⟩ = some (.string b) ∧ w'.cell? ⟨W.heap.size, 5, none⟩ = some (.string o) ∧ w'.cell? ⟨W.heap.size, 6, none⟩ = some (.string v) ∧ w'.cell? ⟨W.heap.size + 1, 0, none⟩ = some (.int .i64 k') ∧ w'.cell? ⟨W.heap.size + 1, 1, none⟩ = some (.int .i64 c') ∧ w'.cell? ⟨W.heap.size + 1, 2, none⟩ = some (.int .i64 q') ∧ w'.cell? ⟨W.heap.size + 1, 3, none⟩ = some (.string a') ∧ w'.cell? ⟨W.heap.size + 1, 4, none⟩ = some (.string b') ∧ w'.cell? ⟨W.heap.size + 1, 5, none⟩ = some (.string o') ∧ w'.cell? ⟨W.heap.size + 1, 6, none⟩ = some (.string v') ∧ w'.cell? ⟨W.heap.size + 1 + 1, 0, none⟩ = some (.int .i64 0) ∧ w'.cell? ⟨W.heap.size + 1 + 1, 1, none⟩ = some (.int .i64 0) ∧ w'.cell? ⟨W.heap.size + 1 + 1, 2, none⟩ = some (.int .i64 0) ∧ w'.cell? ⟨W.heap.size + 1 + 1, 3, none⟩ = some (.string ⟨#[]⟩) ∧ w'.cell? ⟨W.heap.size + 1 + 1, 4, none⟩ = some (.string ⟨#[]⟩) ∧ w'.cell? ⟨W.heap.size + 1 + 1, 5, none⟩ = some (.string ⟨#[]⟩) ∧ w'.cell? ⟨W.heap.size + 1 + 1, 6, none⟩ = some (.string ⟨#[]⟩)) (go_keep)
        (first
          | (go_at_call 10; (with_reducible refine (Mir.call (W := W) (x := ⟨k, c, q, a, b, o, v⟩) (y := ⟨k', c', q', a', b', o', v'⟩) (by first | with_reducible assumption | with_reducible exact Mir.drew (by with_reducible assumption)) (C1.out _)).mono ?_); rintro e w' ⟨rfl, ⟨q0, q1, q2, q3, q4, q5, q6⟩, ⟨r0, r1, r2, r3, r4, r5, r6⟩, ⟨z0, z1, z2, z3, z4, z5, z6⟩, st'⟩; simp only at q0 q1 q2 q3 q4 q5 q6 r0 r1 r2 r3 r4 r5 r6 z0 z1 z2 z3 z4 z5 z6)
          | (go_at_call 10; (with_reducible refine (Mir.call (W := W) (x := ⟨k, c, q, a, b, o, v⟩) (y := ⟨k', c', q', a', b', o', v'⟩) (by first | with_reducible assumption | with_reducible exact Mir.drew (by with_reducible assumption)) (C2.out _)).mono ?_); rintro e w' ⟨rfl, ⟨q0, q1, q2, q3, q4, q5, q6⟩, ⟨r0, r1, r2, r3, r4, r5, r6⟩, ⟨z0, z1, z2, z3, z4, z5, z6⟩, st'⟩; simp only at q0 q1 q2 q3 q4 q5 q6 r0 r1 r2 r3 r4 r5 r6 z0 z1 z2 z3 z4 z5 z6)
          | (go_at_call 10; (with_reducible refine (Mir.call (W := W) (x := ⟨k, c, q, a, b, o, v⟩) (y := ⟨k', c', q', a', b', o', v'⟩) (by first | with_reducible assumption | with_reducible exact Mir.drew (by with_reducible assumption)) (C3.out _)).mono ?_); rintro e w' ⟨rfl, ⟨q0, q1, q2, q3, q4, q5, q6⟩, ⟨r0, r1, r2, r3, r4, r5, r6⟩, ⟨z0, z1, z2, z3, z4, z5, z6⟩, st'⟩; simp only at q0 q1 q2 q3 q4 q5 q6 r0 r1 r2 r3 r4 r5 r6 z0 z1 z2 z3 z4 z5 z6)
          | (go_at_call 10; (with_reducible refine (Mir.call (W := W) (x := ⟨k, c, q, a, b, o, v⟩) (y := ⟨k', c', q', a', b', o', v'⟩) (by first | with_reducible assumption | with_reducible exact Mir.drew (by with_reducible assumption)) (C4.out _)).mono ?_); rintro e w' ⟨rfl, ⟨q0, q1, q2, q3, q4, q5, q6⟩, ⟨r0, r1, r2, r3, r4, r5, r6⟩, ⟨z0, z1, z2, z3, z4, z5, z6⟩, st'⟩; simp only at q0 q1 q2 q3 q4 q5 q6 r0 r1 r2 r3 r4 r5 r6 z0 z1 z2 z3 z4 z5 z6)
          | (go_at_call 10; (with_reducible refine (Mir.call (W := W) (x := ⟨k, c, q, a, b, o, v⟩) (y := ⟨k', c', q', a', b', o', v'⟩) (by first | with_reducible assumption | with_reducible exact Mir.drew (by with_reducible assumption)) (C5.out _)).mono ?_); rintro e w' ⟨rfl, ⟨q0, q1, q2, q3, q4, q5, q6⟩, ⟨r0, r1, r2, r3, r4, r5, r6⟩, ⟨z0, z1, z2, z3, z4, z5, z6⟩, st'⟩; simp only at q0 q1 q2 q3 q4 q5 q6 r0 r1 r2 r3 r4 r5 r6 z0 z1 z2 z3 z4 z5 z6)
          | (go_at_call 17; (with_reducible refine (Mir.call (W := W) (x := ⟨k, c, q, a, b, o, v⟩) (y := ⟨k', c', q', a', b', o', v'⟩) (by first | with_reducible assumption | with_reducible exact Mir.drew (by with_reducible assumption)) (HW.out _)).mono ?_); rintro e w' ⟨rfl, ⟨q0, q1, q2, q3, q4, q5, q6⟩, ⟨r0, r1, r2, r3, r4, r5, r6⟩, ⟨z0, z1, z2, z3, z4, z5, z6⟩, st'⟩; simp only at q0 q1 q2 q3 q4 q5 q6 r0 r1 r2 r3 r4 r5 r6 z0 z1 z2 z3 z4 z5 z6))
      all_goals go_wp2
      all_goals go_meet
      all_goals exact ⟨rfl, by with_reducible assumption⟩
  case rest =>
    obtain ⟨rfl, st2⟩ := hcut
    clear st q0 q1 q2 q3 q4 q5 q6 r0 r1 r2 r3 r4 r5 r6 z0 z1 z2 z3 z4 z5 z6 C1 C2 C3 C4 HS HW0
    obtain ⟨q0, q1, q2, q3, q4, q5, q6⟩ := st2.a.cells7
    simp only at q0 q1 q2 q3 q4 q5 q6
    go_upto_region 5 with (go_at_call 13; (with_reducible refine (st2.call (K1.out _)).mono ?_); rintro e w5 ⟨rfl, ⟨q0, q1, q2, q3, q4, q5, q6⟩, ⟨r0, r1, r2, r3, r4, r5, r6⟩, _, st'⟩; simp only at q0 q1 q2 q3 q4 q5 q6 r0 r1 r2 r3 r4 r5 r6)
    have st6 := st'.step ((Below.refl _ _).alloc (Nat.le_refl _) (.cells #[.string l, .string h] 31))
    generalize w5.alloc (.cells #[.string l, .string h] 31) = w6 at *
    generalize w5.heap.size = g1 at *
    clear st' q0 q1 q2 q3 q4 q5 q6 r0 r1 r2 r3 r4 r5 r6
    obtain ⟨r0, r1, r2, r3, r4, r5, r6⟩ := st6.b.cells7
    simp only at r0 r1 r2 r3 r4 r5 r6
    go_upto_region 6 with (go_at_call 13; (with_reducible refine (st6.call (K2.out _)).mono ?_); rintro e w7 ⟨rfl, ⟨q0, q1, q2, q3, q4, q5, q6⟩, ⟨r0, r1, r2, r3, r4, r5, r6⟩, _, st'⟩; simp only at q0 q1 q2 q3 q4 q5 q6 r0 r1 r2 r3 r4 r5 r6)
    have st8 := st'.step ((Below.refl _ _).alloc (Nat.le_refl _) (.cells #[.string l', .string h'] 31))
    generalize w7.alloc (.cells #[.string l', .string h'] 31) = w8 at *
    generalize w7.heap.size = g2 at *
    clear st' q0 q1 q2 q3 q4 q5 q6 r0 r1 r2 r3 r4 r5 r6
    obtain ⟨q0, q1, q2, q3, q4, q5, q6⟩ := st8.a.cells7
    obtain ⟨r0, r1, r2, r3, r4, r5, r6⟩ := st8.b.cells7
    obtain ⟨f0, f1, f2, f3, f4, f5, f6⟩ := st8.a.free7
    obtain ⟨g0, g1', g2', g3, g4, g5, g6⟩ := st8.b.free7
    simp only at q0 q1 q2 q3 q4 q5 q6 r0 r1 r2 r3 r4 r5 r6
    go_upto_region 7 with (fail)
    have st9 := st8.puts n
    simp only at st9
    generalize (w8.setCell ⟨W.heap.size, 1, none⟩ (.int .i64 n)).setCell ⟨W.heap.size + 1, 1, none⟩ (.int .i64 n) = w9 at *
    clear q0 q1 q2 q3 q4 q5 q6 r0 r1 r2 r3 r4 r5 r6 f0 f1 f2 f3 f4 f5 f6 g0 g1' g2' g3 g4 g5 g6
    obtain ⟨q0, q1, q2, q3, q4, q5, q6⟩ := st9.a.cells7
    obtain ⟨r0, r1, r2, r3, r4, r5, r6⟩ := st9.b.cells7
    simp only at q0 q1 q2 q3 q4 q5 q6 r0 r1 r2 r3 r4 r5 r6
    cases p <;> cases p'
    all_goals
      go_wp2_with (first
        | (go_at_call 10; (with_reducible refine (st9.call (C6.out _)).mono ?_); rintro e w10 ⟨rfl, ⟨q0, q1, q2, q3, q4, q5, q6⟩, ⟨r0, r1, r2, r3, r4, r5, r6⟩, _, st'⟩; simp only at q0 q1 q2 q3 q4 q5 q6 r0 r1 r2 r3 r4 r5 r6)
        | (go_at_call 3; (with_reducible refine (runs_any _).mono ?_); rintro e w11 ⟨rfl, k11⟩))
      go_ret
      exact ⟨rfl, st'.old.trans (k11.mono st'.old.size)⟩
set_option maxRecDepth 100000 in
theorem lifted (os : Os) (started : os.Started) (H : Type) (enc : TypeId × Value → H) :
    ReturnsInHanded {} Try.checked os 7 .any (Rows.cmdMirrorsSpec.pre6 enc Try.prog Try.f7 Rows.cmdMirrorsRow.domain false) (Rows.cmdMirrorsSpec.post enc Try.prog Try.f7 false true false false) := by
  refine returnsInHanded_of_change_sized (C := Try.checked) own started (by kernel_rfl) Try.func7
    (ChangeSpec.witness6 (enc := enc) (C := Try.checked) false ⟨#[], #[.agg #[.int .i64 0, .int .i64 0, .int .i64 0, .string ⟨#[]⟩, .string ⟨#[]⟩, .string ⟨#[]⟩, .string ⟨#[]⟩], .agg #[.int .i64 0, .int .i64 0, .int .i64 0, .string ⟨#[]⟩, .string ⟨#[]⟩, .string ⟨#[]⟩, .string ⟨#[]⟩], .int .i64 0], []⟩ 8 (by kernel_rfl) (by kernel_rfl) (by kernel_rfl) (by kernel_rfl)) ?_
  intro W base args ds gs before hval0 hW _ hsz0 _
  have hval : ∀ (j : Nat) t v, Try.f7.params[j]? = some t → args[j]? = some v → Value.okWide Try.prog W .any base t v := hval0
  have hW' := hW
  obtain ⟨p, q, hA0, hV, rfl, _, _⟩ := hW
  have hA : DataW.TrodAll enc Try.prog W 0 (fun _ => true) true Try.f7.params.toList args.toList ds p := hA0
  have hsz : (DataW.weightsEach Try.prog (Try.f7.params.toList ++ Rows.cmdMirrorsSpec.plain.varTypes Try.prog) (ds ++ gs)).all (· ≤ reachBytes) = true := hsz0
  rw [Try.params7] at hA hval hsz
  obtain ⟨v0, vs0, d0, ds0, p0, q0, hargs, rfl, rfl, h0, r0⟩ := trodAll_cons hA
  obtain ⟨v1, vs1, d1, ds1, p1, q1, rfl, rfl, rfl, h1, r1⟩ := trodAll_cons r0
  obtain ⟨v2, vs2, d2, ds2, p2, q2, rfl, rfl, rfl, h2, r2⟩ := trodAll_cons r1
  obtain ⟨rfl, rfl, rfl⟩ := trodAll_nil r2
  obtain rfl : args = #[v0, v1, v2] := by cases args; simp_all
  obtain ⟨rfl, rfl⟩ := trodVars_none hV
  have k0 := h0
  have lt0 : ∀ x ∈ p0, x.block < W.heap.size := by obtain ⟨m, hm⟩ := k0; exact DataW.trod_lt m _ _ _ hm
  obtain ⟨x0, rfl, s0⟩ := cmd_in (j := 0) (hval 0 23 v0 rfl rfl) h0 hsz rfl rfl
  have k1 := h1
  have lt1 : ∀ x ∈ p1, x.block < W.heap.size := by obtain ⟨m, hm⟩ := k1; exact DataW.trod_lt m _ _ _ hm
  obtain ⟨x1, rfl, s1⟩ := cmd_in (j := 1) (hval 1 23 v1 rfl rfl) h1 hsz rfl rfl
  obtain ⟨a2, rfl, rfl, rfl, w2⟩ := open_int Try.underlying3 (hval 2 3 v2 rfl rfl) h2
  clear hA0 hval0
  refine (walk x0 x1 a2 W s0 s1 (bounds_i64 w2)).mono fun e W' ⟨he, bel⟩ => ?_
  subst he
  exact ⟨_, rfl, _, _, _, [], _, [], hW', trodAll_mk1 (shut_bool Try.underlying4 _), (trodAll_cons_mk (Below.trod laidOut (by kernel_rfl) (of_decide_eq_true (by kernel_rfl)) k0 bel lt0) (trodAll_cons_mk (Below.trod laidOut (by kernel_rfl) (of_decide_eq_true (by kernel_rfl)) k1 bel lt1) (trodAll_cons_mk (shut_int Try.underlying3 w2) trodAll_mk0))), rfl, bel.frame _, fun h => by cases h⟩
theorem over : Rows.cmdMirrorsRow.holds Try.pinned (OpenSpec.ofChange Rows.cmdMirrorsSpec) :=
  OpenClaim.holds_of_wide 7 Try.f7 rfl rfl rfl rfl rfl rfl rfl ⟨rfl, rfl, rfl, rfl, rfl⟩ rfl rfl rfl rfl rfl (by kernel_rfl) Try.func7 (by kernel_rfl)
    (of_decide_eq_true (by kernel_rfl)) (by unfold Func.isWrapper; first | (rw [if_pos (by decide +kernel)]; kernel_rfl) | (rw [if_neg (by decide +kernel)]; exact ⟨rfl, rfl⟩))
    (fun os started H enc _ => lifted os started H enc)
theorem proved : Rows.CmdMirrorsSaid := over
end Go.Proofs.Ytigbplmfhnamkaa.cmdMirrors
