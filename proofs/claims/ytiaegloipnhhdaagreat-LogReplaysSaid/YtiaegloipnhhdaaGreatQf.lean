/- Small functions of package letter; the program's RightCell, holdsOf. Conditions: the lists are as long as they are. -/
import Derived.Test.YtiaegloipnhhdaaGreatQd
import Derived.Test.YtiaegloipnhhdaaGreatQa
import Derived.Test.YtiaegloipnhhdaaGreatQe
namespace Go.Proofs.YtiaegloipnhhdaaGreat
set_option maxRecDepth 100000
open Go.RowKit
theorem fill_at1 (d0 d1 d2 d3 d4 d5 d6 : Int) (w : World) : (Instr.build 36 #[(1, .agg (cA [d0, d1, d2, d3, d4, d5, d6]))]).run Tryz.prog w = .ok (.agg #[.int .i64 0, .int .i64 d0, .int .i64 d1, .int .i64 d2, .int .i64 d3, .int .i64 d4, .int .i64 d5, .int .i64 d6]) w := by kernel_rfl
section
variable {P : Program} {ops : Array Oper} {rest : List Oper} {d : Option Tmp} {ty T : TypeId} {ps : String} {af : Array Edge} {gd : Option (Nat × Bool)} {a : Act} {w : World} {Q : Exit → Act → World → Prop}
/-- A struct is built of one field, of none. -/
theorem wpList_build_one {i : Nat} {x : Operand} {u v : Value} (hw : Region.wanted ({ dst := d, op := .build T #[(i, x)], type := ty, pos := ps, after := af, guard := gd } : Oper) (yielded ops a.tmps) = true) (hx : a.eval x = u) (hf : (Instr.build T #[(i, u)]).run P w = .ok v w)
    (h : wpList P ops Q rest (a.put d v) w) : wpList P ops Q ({ dst := d, op := .build T #[(i, x)], type := ty, pos := ps, after := af, guard := gd } :: rest) a w :=
  wpList_step fun K hK => by
    rw [if_pos hw]
    unfold Oper.wp execOp
    simp only [List.map_toArray, List.map_cons, List.map_nil, hx, Sem.run_bind, hf, Result.andThen_ok, Sem.run_pure]
    exact hK _ _ h
theorem wpList_build_no {v : Value} (hw : Region.wanted ({ dst := d, op := .build T #[], type := ty, pos := ps, after := af, guard := gd } : Oper) (yielded ops a.tmps) = true) (hf : (Instr.build T #[]).run P w = .ok v w)
    (h : wpList P ops Q rest (a.put d v) w) : wpList P ops Q ({ dst := d, op := .build T #[], type := ty, pos := ps, after := af, guard := gd } :: rest) a w :=
  wpList_step fun K hK => by
    rw [if_pos hw]
    unfold Oper.wp execOp
    simp only [List.map_toArray, List.map_nil, Sem.run_bind, hf, Result.andThen_ok, Sem.run_pure]
    exact hK _ _ h
end
theorem pright_al {a : List Int} (h : a.length = 8) (w : World) : Calls Tryz.prog 55 #[.agg (cA a)] w fun e w' => e = .returned (.bool (rightAl a)) ∧ Below w.heap.size w w' := by
  obtain ⟨a0, a1, a2, a3, a4, a5, a6, a7, rfl⟩ := len8 h
  exact rightA_any a0 a1 a2 a3 a4 a5 a6 a7 w
theorem pright_cm (c : Cm) (w : World) : Calls Tryz.prog 54 #[.agg #[.int .i64 c.k, .int .i64 c.c, .int .i64 c.q, .string c.key, .string c.en, .string c.old, .string c.val]] w fun e w' => e = .returned (.bool (rightC c)) ∧ Below w.heap.size w w' := right_any c.k c.c c.q c.key c.en c.old c.val w
/-- '!=' of ballots, cells, letters. -/
theorem neq_bal (x1 x2 y1 y2 : Int) (w : World) : (binOp .neq 32 (.agg #[.int .i64 x1, .int .i64 x2]) (.agg #[.int .i64 y1, .int .i64 y2])).run Tryz.prog w = .ok (.bool (!(x1 == y1 && x2 == y2))) w := by
  rw [run_neq_struct, show (10000 : Nat) = 9998 + 2 from rfl, eqd_bal]
  rfl
theorem neq_cell {x y : Cl} (h : x.a.length = 8) (h' : y.a.length = 8) (w : World) : (binOp .neq 38 (.agg (clC x)) (.agg (clC y))).run Tryz.prog w = .ok (.bool (!sameCl x y)) w := by
  obtain ⟨st, ⟨p1, p2⟩, ⟨v1, v2⟩, ⟨kx, cx, qx, kax, kbx, kox, kvx⟩, ax, s⟩ := x
  obtain ⟨st', ⟨p1', p2'⟩, ⟨v1', v2'⟩, ⟨kx', cx', qx', kax', kbx', kox', kvx'⟩, ax', s'⟩ := y
  dsimp only at h h'
  obtain ⟨x0, x1, x2, x3, x4, x5, x6, x7, rfl⟩ := len8 h
  obtain ⟨x0', x1', x2', x3', x4', x5', x6', x7', rfl⟩ := len8 h'
  rw [run_neq_struct, show (10000 : Nat) = 9996 + 4 from rfl]
  have e := eqd_cell 9996 st p1 p2 v1 v2 kx cx qx kax kbx kox kvx x0 x1 x2 x3 x4 x5 x6 x7 s st' p1' p2' v1' v2' kx' cx' qx' kax' kbx' kox' kvx' x0' x1' x2' x3' x4' x5' x6' x7' s' w
  exact (congrArg (fun r => Result.andThen r fun b w' => Result.ok (Value.bool (!b)) w') e)
end Go.Proofs.YtiaegloipnhhdaaGreat
/- The program's RightCell. Conditions: a cell's attributes are eight numbers. -/
namespace Go.Proofs.YtiaegloipnhhdaaGreat
set_option maxRecDepth 100000
open Go.RowKit
def bareX (x : Cl) : Cl := { zeroCl with p := x.p }
theorem fill_cp (p q : Int) (w : World) : (Instr.build 38 #[(1, .agg #[.int .i64 p, .int .i64 q])]).run Tryz.prog w = .ok (.agg (clC { zeroCl with p := (p, q) })) w := by kernel_rfl
theorem CeAt.all {w : World} {b : Nat} {t : TypeId} {x : Cl} (h : CeAt w b t x) : w.rangeAt b 0 x.l := h.r.mid (A := []) (ys := x.l) (B := []) (by unfold clC; simp) rfl
theorem rightCl_eq (x : Cl) : rightCl x = (!(x.st == 0 && !sameCl x (bareX x)) && (!(x.s && (!(x.st == 1) || !(x.v.1 == 0 && x.v.2 == 0))) &&
    ((decide (0 ≤ x.st) && decide (x.st ≤ 3)) && (rightB x.p.1 x.p.2 && (rightB x.v.1 x.v.2 && (!ltP x.p x.v && (rightC x.c && rightAl x.a))))))) := by
  rw [Bool.eq_iff_iff]
  unfold rightCl sameCl bareX zeroCl
  simp only [Bool.and_eq_true, Bool.or_eq_true, Bool.not_eq_true', beq_iff_eq, sameP_iff, sameC_iff, decide_eq_true_eq, Bool.and_eq_false_iff, Bool.or_eq_false_iff, Bool.not_eq_false', beq_eq_false_iff_ne, ne_eq]
  have hz : x.v = (0, 0) ↔ x.v.1 = 0 ∧ x.v.2 = 0 := by rw [Prod.ext_iff]
  rw [hz]
  constructor
  · rintro ⟨h1, h2, h3, h4, h5, h6, h7, h8⟩
    refine ⟨?_, ?_, h1, h2, h3, h6, h4, h5⟩
    · by_cases h0 : x.st = 0
      · right
        rcases h8 with h8 | ⟨z1, z2, z3⟩
        · exact absurd h0 h8
        · refine ⟨h0, trivial, z3, z1, z2, ?_⟩
          rcases h7 with h7 | h7
          · exact h7
          · omega
      · exact .inl h0
    · rcases h7 with h7 | ⟨h7, h9⟩
      · exact .inl h7
      · exact .inr ⟨h7, h9⟩
  · rintro ⟨g1, g2, h1, h2, h3, h6, h4, h5⟩
    refine ⟨h1, h2, h3, h4, h5, h6, g2, ?_⟩
    rcases g1 with g1 | ⟨_, _, z3, z1, z2, _⟩
    · exact .inl g1
    · exact .inr ⟨z1, z2, z3⟩
set_option maxHeartbeats 32000000 in
theorem prightcell_any (x : Cl) (hl : x.a.length = 8) (w : World) : Calls Tryz.prog 23 #[.agg (clC x)] w fun y w' => y = .returned (.bool (rightCl x)) ∧ Below w.heap.size w w' := by
  rw [rightCl_eq]
  have CE := hide (CeAt.new (x := x) hl w 38)
  have HB := hide ((Below.refl w.heap.size w).alloc (Nat.le_refl _) (.cells (clC x) 38))
  have hne := fun w => neq_cell (x := x) (y := bareX x) hl rfl w
  generalize sameCl x (bareX x) = q1 at hne ⊢
  obtain ⟨a0, a1, a2, a3, a4, a5, a6, a7, ha⟩ := len8 hl
  obtain ⟨st, ⟨p1, p2⟩, ⟨v1, v2⟩, ⟨ck, cc, cq, ca, cb, co, cv⟩, a, s⟩ := x
  dsimp only at ha hl hne ⊢
  subst ha
  have hb1 := fun w => rightballot_any p1 p2 w
  have hb2 := fun w => rightballot_any v1 v2 w
  have hb3 := fun w => right_any ck cc cq ca cb co cv w
  have hb4 : ∀ w, Calls Tryz.prog 55 #[.agg #[.int .i64 a0, .int .i64 a1, .int .i64 a2, .int .i64 a3, .int .i64 a4, .int .i64 a5, .int .i64 a6, .int .i64 a7]] w fun e w' => e = .returned (.bool (rightAl [a0, a1, a2, a3, a4, a5, a6, a7])) ∧ Below w.heap.size w w' := fun w => rightA_any a0 a1 a2 a3 a4 a5 a6 a7 w
  have hb5 := fun w => below_any p1 p2 v1 v2 w
  have hnb := fun w => neq_bal v1 v2 0 0 w
  generalize (v1 == 0 && v2 == 0) = qb at hnb ⊢
  generalize rightB p1 p2 = r1 at hb1 ⊢
  generalize rightB v1 v2 = r2 at hb2 ⊢
  generalize ltP (p1, p2) (v1, v2) = r3 at hb5 ⊢
  generalize rightC ⟨ck, cc, cq, ca, cb, co, cv⟩ = r4 at hb3 ⊢
  generalize rightAl [a0, a1, a2, a3, a4, a5, a6, a7] = r5 at hb4 ⊢
  clear hl
  have hne : ∀ w, (binOp .neq 38 (.agg (clC ⟨st, (p1, p2), (v1, v2), ⟨ck, cc, cq, ca, cb, co, cv⟩, [a0, a1, a2, a3, a4, a5, a6, a7], s⟩)) (.agg (clC { zeroCl with p := (p1, p2) }))).run Tryz.prog w = .ok (.bool (!q1)) w := hne
  by_cases h0 : st = 0
  · subst h0
    cases q1
    · simp only [Bool.not_false] at hne
      go_enter Tryz.func23, Tryz.ntmps23
      go_upto_region 1 with (fail)
      generalize w.alloc (.cells (clC _) 38) = w1 at CE HB ⊢
      obtain ⟨c0, c1, c2, c3, c4, c5, c6, c7, c8, c9, c10, c11, c12, c13, c14, c15, c16, c17, c18, c19, c20⟩ := CE.out.cells rfl
      dsimp only at c0 c1 c2 c3 c4 c5 c6 c7 c8 c9 c10 c11 c20
      go_wp2_with (first
        | ((with_reducible refine wpList_load_ce (y := ⟨0, (p1, p2), (v1, v2), ⟨ck, cc, cq, ca, cb, co, cv⟩, [a0, a1, a2, a3, a4, a5, a6, a7], s⟩) rfl ?_ ?_ CE.out.all ?_); rfl; rfl)
        | ((with_reducible refine wpList_build_one (i := 1) (u := .agg #[.int .i64 p1, .int .i64 p2]) ?_ ?_ (fill_cp p1 p2 _) ?_); rfl; rfl)
        | (go_at_call 52; (with_reducible refine (hb1 _).mono ?_); rintro e w2 ⟨rfl, hb⟩; have HB := hide (kept_trans HB.out hb); have CE := hide (CE.out.kept hb); obtain ⟨c0, c1, c2, c3, c4, c5, c6, c7, c8, c9, c10, c11, c12, c13, c14, c15, c16, c17, c18, c19, c20⟩ := CE.out.cells rfl; clear hb)
        | (go_at_call 52; (with_reducible refine (hb2 _).mono ?_); rintro e w2 ⟨rfl, hb⟩; have HB := hide (kept_trans HB.out hb); have CE := hide (CE.out.kept hb); obtain ⟨c0, c1, c2, c3, c4, c5, c6, c7, c8, c9, c10, c11, c12, c13, c14, c15, c16, c17, c18, c19, c20⟩ := CE.out.cells rfl; clear hb)
        | (go_at_call 54; (with_reducible refine (hb3 _).mono ?_); rintro e w2 ⟨rfl, hb⟩; have HB := hide (kept_trans HB.out hb); have CE := hide (CE.out.kept hb); obtain ⟨c0, c1, c2, c3, c4, c5, c6, c7, c8, c9, c10, c11, c12, c13, c14, c15, c16, c17, c18, c19, c20⟩ := CE.out.cells rfl; clear hb)
        | (go_at_call 55; (with_reducible refine (hb4 _).mono ?_); rintro e w2 ⟨rfl, hb⟩; have HB := hide (kept_trans HB.out hb); have CE := hide (CE.out.kept hb); obtain ⟨c0, c1, c2, c3, c4, c5, c6, c7, c8, c9, c10, c11, c12, c13, c14, c15, c16, c17, c18, c19, c20⟩ := CE.out.cells rfl; clear hb)
        | (go_at_call 53; (with_reducible refine (hb5 _).mono ?_); rintro e w2 ⟨rfl, hb⟩; have HB := hide (kept_trans HB.out hb); have CE := hide (CE.out.kept hb); obtain ⟨c0, c1, c2, c3, c4, c5, c6, c7, c8, c9, c10, c11, c12, c13, c14, c15, c16, c17, c18, c19, c20⟩ := CE.out.cells rfl; clear hb))
      all_goals (go_ret; refine ⟨ret_bool ?_, HB.out⟩; clear HB CE hb1 hb2 hb3 hb4 hb5 hne hnb; simp)
    · simp only [Bool.not_true] at hne
      cases s
      · skip
        go_enter Tryz.func23, Tryz.ntmps23
        go_upto_region 1 with (fail)
        generalize w.alloc (.cells (clC _) 38) = w1 at CE HB ⊢
        obtain ⟨c0, c1, c2, c3, c4, c5, c6, c7, c8, c9, c10, c11, c12, c13, c14, c15, c16, c17, c18, c19, c20⟩ := CE.out.cells rfl
        dsimp only at c0 c1 c2 c3 c4 c5 c6 c7 c8 c9 c10 c11 c20
        go_wp2_with (first
          | ((with_reducible refine wpList_load_ce (y := ⟨0, (p1, p2), (v1, v2), ⟨ck, cc, cq, ca, cb, co, cv⟩, [a0, a1, a2, a3, a4, a5, a6, a7], false⟩) rfl ?_ ?_ CE.out.all ?_); rfl; rfl)
          | ((with_reducible refine wpList_build_one (i := 1) (u := .agg #[.int .i64 p1, .int .i64 p2]) ?_ ?_ (fill_cp p1 p2 _) ?_); rfl; rfl)
          | (go_at_call 52; (with_reducible refine (hb1 _).mono ?_); rintro e w2 ⟨rfl, hb⟩; have HB := hide (kept_trans HB.out hb); have CE := hide (CE.out.kept hb); obtain ⟨c0, c1, c2, c3, c4, c5, c6, c7, c8, c9, c10, c11, c12, c13, c14, c15, c16, c17, c18, c19, c20⟩ := CE.out.cells rfl; clear hb)
          | (go_at_call 52; (with_reducible refine (hb2 _).mono ?_); rintro e w2 ⟨rfl, hb⟩; have HB := hide (kept_trans HB.out hb); have CE := hide (CE.out.kept hb); obtain ⟨c0, c1, c2, c3, c4, c5, c6, c7, c8, c9, c10, c11, c12, c13, c14, c15, c16, c17, c18, c19, c20⟩ := CE.out.cells rfl; clear hb)
          | (go_at_call 54; (with_reducible refine (hb3 _).mono ?_); rintro e w2 ⟨rfl, hb⟩; have HB := hide (kept_trans HB.out hb); have CE := hide (CE.out.kept hb); obtain ⟨c0, c1, c2, c3, c4, c5, c6, c7, c8, c9, c10, c11, c12, c13, c14, c15, c16, c17, c18, c19, c20⟩ := CE.out.cells rfl; clear hb)
          | (go_at_call 55; (with_reducible refine (hb4 _).mono ?_); rintro e w2 ⟨rfl, hb⟩; have HB := hide (kept_trans HB.out hb); have CE := hide (CE.out.kept hb); obtain ⟨c0, c1, c2, c3, c4, c5, c6, c7, c8, c9, c10, c11, c12, c13, c14, c15, c16, c17, c18, c19, c20⟩ := CE.out.cells rfl; clear hb)
          | (go_at_call 53; (with_reducible refine (hb5 _).mono ?_); rintro e w2 ⟨rfl, hb⟩; have HB := hide (kept_trans HB.out hb); have CE := hide (CE.out.kept hb); obtain ⟨c0, c1, c2, c3, c4, c5, c6, c7, c8, c9, c10, c11, c12, c13, c14, c15, c16, c17, c18, c19, c20⟩ := CE.out.cells rfl; clear hb))
        all_goals (go_ret; refine ⟨ret_bool ?_, HB.out⟩; clear HB CE hb1 hb2 hb3 hb4 hb5 hne hnb; first | (simp [*]; done) | (simp [*] <;> omega))
      · skip
        go_enter Tryz.func23, Tryz.ntmps23
        go_upto_region 1 with (fail)
        generalize w.alloc (.cells (clC _) 38) = w1 at CE HB ⊢
        obtain ⟨c0, c1, c2, c3, c4, c5, c6, c7, c8, c9, c10, c11, c12, c13, c14, c15, c16, c17, c18, c19, c20⟩ := CE.out.cells rfl
        dsimp only at c0 c1 c2 c3 c4 c5 c6 c7 c8 c9 c10 c11 c20
        go_wp2_with (first
          | ((with_reducible refine wpList_load_ce (y := ⟨0, (p1, p2), (v1, v2), ⟨ck, cc, cq, ca, cb, co, cv⟩, [a0, a1, a2, a3, a4, a5, a6, a7], true⟩) rfl ?_ ?_ CE.out.all ?_); rfl; rfl)
          | ((with_reducible refine wpList_build_one (i := 1) (u := .agg #[.int .i64 p1, .int .i64 p2]) ?_ ?_ (fill_cp p1 p2 _) ?_); rfl; rfl)
          | (go_at_call 52; (with_reducible refine (hb1 _).mono ?_); rintro e w2 ⟨rfl, hb⟩; have HB := hide (kept_trans HB.out hb); have CE := hide (CE.out.kept hb); obtain ⟨c0, c1, c2, c3, c4, c5, c6, c7, c8, c9, c10, c11, c12, c13, c14, c15, c16, c17, c18, c19, c20⟩ := CE.out.cells rfl; clear hb)
          | (go_at_call 52; (with_reducible refine (hb2 _).mono ?_); rintro e w2 ⟨rfl, hb⟩; have HB := hide (kept_trans HB.out hb); have CE := hide (CE.out.kept hb); obtain ⟨c0, c1, c2, c3, c4, c5, c6, c7, c8, c9, c10, c11, c12, c13, c14, c15, c16, c17, c18, c19, c20⟩ := CE.out.cells rfl; clear hb)
          | (go_at_call 54; (with_reducible refine (hb3 _).mono ?_); rintro e w2 ⟨rfl, hb⟩; have HB := hide (kept_trans HB.out hb); have CE := hide (CE.out.kept hb); obtain ⟨c0, c1, c2, c3, c4, c5, c6, c7, c8, c9, c10, c11, c12, c13, c14, c15, c16, c17, c18, c19, c20⟩ := CE.out.cells rfl; clear hb)
          | (go_at_call 55; (with_reducible refine (hb4 _).mono ?_); rintro e w2 ⟨rfl, hb⟩; have HB := hide (kept_trans HB.out hb); have CE := hide (CE.out.kept hb); obtain ⟨c0, c1, c2, c3, c4, c5, c6, c7, c8, c9, c10, c11, c12, c13, c14, c15, c16, c17, c18, c19, c20⟩ := CE.out.cells rfl; clear hb)
          | (go_at_call 53; (with_reducible refine (hb5 _).mono ?_); rintro e w2 ⟨rfl, hb⟩; have HB := hide (kept_trans HB.out hb); have CE := hide (CE.out.kept hb); obtain ⟨c0, c1, c2, c3, c4, c5, c6, c7, c8, c9, c10, c11, c12, c13, c14, c15, c16, c17, c18, c19, c20⟩ := CE.out.cells rfl; clear hb))
        all_goals (go_ret; refine ⟨ret_bool ?_, HB.out⟩; clear HB CE hb1 hb2 hb3 hb4 hb5 hne hnb; simp)
  · have t0 : (st == 0) = false := by simpa using h0
    cases s
    · skip
      go_enter Tryz.func23, Tryz.ntmps23
      go_upto_region 1 with (fail)
      generalize w.alloc (.cells (clC _) 38) = w1 at CE HB ⊢
      obtain ⟨c0, c1, c2, c3, c4, c5, c6, c7, c8, c9, c10, c11, c12, c13, c14, c15, c16, c17, c18, c19, c20⟩ := CE.out.cells rfl
      dsimp only at c0 c1 c2 c3 c4 c5 c6 c7 c8 c9 c10 c11 c20
      go_wp2_with (first
        | ((with_reducible refine wpList_load_ce (y := ⟨st, (p1, p2), (v1, v2), ⟨ck, cc, cq, ca, cb, co, cv⟩, [a0, a1, a2, a3, a4, a5, a6, a7], false⟩) rfl ?_ ?_ CE.out.all ?_); rfl; rfl)
        | ((with_reducible refine wpList_build_one (i := 1) (u := .agg #[.int .i64 p1, .int .i64 p2]) ?_ ?_ (fill_cp p1 p2 _) ?_); rfl; rfl)
        | (go_at_call 52; (with_reducible refine (hb1 _).mono ?_); rintro e w2 ⟨rfl, hb⟩; have HB := hide (kept_trans HB.out hb); have CE := hide (CE.out.kept hb); obtain ⟨c0, c1, c2, c3, c4, c5, c6, c7, c8, c9, c10, c11, c12, c13, c14, c15, c16, c17, c18, c19, c20⟩ := CE.out.cells rfl; clear hb)
        | (go_at_call 52; (with_reducible refine (hb2 _).mono ?_); rintro e w2 ⟨rfl, hb⟩; have HB := hide (kept_trans HB.out hb); have CE := hide (CE.out.kept hb); obtain ⟨c0, c1, c2, c3, c4, c5, c6, c7, c8, c9, c10, c11, c12, c13, c14, c15, c16, c17, c18, c19, c20⟩ := CE.out.cells rfl; clear hb)
        | (go_at_call 54; (with_reducible refine (hb3 _).mono ?_); rintro e w2 ⟨rfl, hb⟩; have HB := hide (kept_trans HB.out hb); have CE := hide (CE.out.kept hb); obtain ⟨c0, c1, c2, c3, c4, c5, c6, c7, c8, c9, c10, c11, c12, c13, c14, c15, c16, c17, c18, c19, c20⟩ := CE.out.cells rfl; clear hb)
        | (go_at_call 55; (with_reducible refine (hb4 _).mono ?_); rintro e w2 ⟨rfl, hb⟩; have HB := hide (kept_trans HB.out hb); have CE := hide (CE.out.kept hb); obtain ⟨c0, c1, c2, c3, c4, c5, c6, c7, c8, c9, c10, c11, c12, c13, c14, c15, c16, c17, c18, c19, c20⟩ := CE.out.cells rfl; clear hb)
        | (go_at_call 53; (with_reducible refine (hb5 _).mono ?_); rintro e w2 ⟨rfl, hb⟩; have HB := hide (kept_trans HB.out hb); have CE := hide (CE.out.kept hb); obtain ⟨c0, c1, c2, c3, c4, c5, c6, c7, c8, c9, c10, c11, c12, c13, c14, c15, c16, c17, c18, c19, c20⟩ := CE.out.cells rfl; clear hb))
      all_goals (go_ret; refine ⟨ret_bool ?_, HB.out⟩; clear HB CE hb1 hb2 hb3 hb4 hb5 hne hnb; first | (simp [*]; done) | (simp [*] <;> omega))
    · by_cases h1 : st = 1
      · subst h1
        cases qb
        · simp only [Bool.not_false] at hnb
          go_enter Tryz.func23, Tryz.ntmps23
          go_upto_region 1 with (fail)
          generalize w.alloc (.cells (clC _) 38) = w1 at CE HB ⊢
          obtain ⟨c0, c1, c2, c3, c4, c5, c6, c7, c8, c9, c10, c11, c12, c13, c14, c15, c16, c17, c18, c19, c20⟩ := CE.out.cells rfl
          dsimp only at c0 c1 c2 c3 c4 c5 c6 c7 c8 c9 c10 c11 c20
          go_wp2_with (first
            | ((with_reducible refine wpList_load_ce (y := ⟨1, (p1, p2), (v1, v2), ⟨ck, cc, cq, ca, cb, co, cv⟩, [a0, a1, a2, a3, a4, a5, a6, a7], true⟩) rfl ?_ ?_ CE.out.all ?_); rfl; rfl)
            | ((with_reducible refine wpList_build_one (i := 1) (u := .agg #[.int .i64 p1, .int .i64 p2]) ?_ ?_ (fill_cp p1 p2 _) ?_); rfl; rfl)
            | (go_at_call 52; (with_reducible refine (hb1 _).mono ?_); rintro e w2 ⟨rfl, hb⟩; have HB := hide (kept_trans HB.out hb); have CE := hide (CE.out.kept hb); obtain ⟨c0, c1, c2, c3, c4, c5, c6, c7, c8, c9, c10, c11, c12, c13, c14, c15, c16, c17, c18, c19, c20⟩ := CE.out.cells rfl; clear hb)
            | (go_at_call 52; (with_reducible refine (hb2 _).mono ?_); rintro e w2 ⟨rfl, hb⟩; have HB := hide (kept_trans HB.out hb); have CE := hide (CE.out.kept hb); obtain ⟨c0, c1, c2, c3, c4, c5, c6, c7, c8, c9, c10, c11, c12, c13, c14, c15, c16, c17, c18, c19, c20⟩ := CE.out.cells rfl; clear hb)
            | (go_at_call 54; (with_reducible refine (hb3 _).mono ?_); rintro e w2 ⟨rfl, hb⟩; have HB := hide (kept_trans HB.out hb); have CE := hide (CE.out.kept hb); obtain ⟨c0, c1, c2, c3, c4, c5, c6, c7, c8, c9, c10, c11, c12, c13, c14, c15, c16, c17, c18, c19, c20⟩ := CE.out.cells rfl; clear hb)
            | (go_at_call 55; (with_reducible refine (hb4 _).mono ?_); rintro e w2 ⟨rfl, hb⟩; have HB := hide (kept_trans HB.out hb); have CE := hide (CE.out.kept hb); obtain ⟨c0, c1, c2, c3, c4, c5, c6, c7, c8, c9, c10, c11, c12, c13, c14, c15, c16, c17, c18, c19, c20⟩ := CE.out.cells rfl; clear hb)
            | (go_at_call 53; (with_reducible refine (hb5 _).mono ?_); rintro e w2 ⟨rfl, hb⟩; have HB := hide (kept_trans HB.out hb); have CE := hide (CE.out.kept hb); obtain ⟨c0, c1, c2, c3, c4, c5, c6, c7, c8, c9, c10, c11, c12, c13, c14, c15, c16, c17, c18, c19, c20⟩ := CE.out.cells rfl; clear hb))
          all_goals (go_ret; refine ⟨ret_bool ?_, HB.out⟩; clear HB CE hb1 hb2 hb3 hb4 hb5 hne hnb; simp)
        · simp only [Bool.not_true] at hnb
          go_enter Tryz.func23, Tryz.ntmps23
          go_upto_region 1 with (fail)
          generalize w.alloc (.cells (clC _) 38) = w1 at CE HB ⊢
          obtain ⟨c0, c1, c2, c3, c4, c5, c6, c7, c8, c9, c10, c11, c12, c13, c14, c15, c16, c17, c18, c19, c20⟩ := CE.out.cells rfl
          dsimp only at c0 c1 c2 c3 c4 c5 c6 c7 c8 c9 c10 c11 c20
          go_wp2_with (first
            | ((with_reducible refine wpList_load_ce (y := ⟨1, (p1, p2), (v1, v2), ⟨ck, cc, cq, ca, cb, co, cv⟩, [a0, a1, a2, a3, a4, a5, a6, a7], true⟩) rfl ?_ ?_ CE.out.all ?_); rfl; rfl)
            | ((with_reducible refine wpList_build_one (i := 1) (u := .agg #[.int .i64 p1, .int .i64 p2]) ?_ ?_ (fill_cp p1 p2 _) ?_); rfl; rfl)
            | (go_at_call 52; (with_reducible refine (hb1 _).mono ?_); rintro e w2 ⟨rfl, hb⟩; have HB := hide (kept_trans HB.out hb); have CE := hide (CE.out.kept hb); obtain ⟨c0, c1, c2, c3, c4, c5, c6, c7, c8, c9, c10, c11, c12, c13, c14, c15, c16, c17, c18, c19, c20⟩ := CE.out.cells rfl; clear hb)
            | (go_at_call 52; (with_reducible refine (hb2 _).mono ?_); rintro e w2 ⟨rfl, hb⟩; have HB := hide (kept_trans HB.out hb); have CE := hide (CE.out.kept hb); obtain ⟨c0, c1, c2, c3, c4, c5, c6, c7, c8, c9, c10, c11, c12, c13, c14, c15, c16, c17, c18, c19, c20⟩ := CE.out.cells rfl; clear hb)
            | (go_at_call 54; (with_reducible refine (hb3 _).mono ?_); rintro e w2 ⟨rfl, hb⟩; have HB := hide (kept_trans HB.out hb); have CE := hide (CE.out.kept hb); obtain ⟨c0, c1, c2, c3, c4, c5, c6, c7, c8, c9, c10, c11, c12, c13, c14, c15, c16, c17, c18, c19, c20⟩ := CE.out.cells rfl; clear hb)
            | (go_at_call 55; (with_reducible refine (hb4 _).mono ?_); rintro e w2 ⟨rfl, hb⟩; have HB := hide (kept_trans HB.out hb); have CE := hide (CE.out.kept hb); obtain ⟨c0, c1, c2, c3, c4, c5, c6, c7, c8, c9, c10, c11, c12, c13, c14, c15, c16, c17, c18, c19, c20⟩ := CE.out.cells rfl; clear hb)
            | (go_at_call 53; (with_reducible refine (hb5 _).mono ?_); rintro e w2 ⟨rfl, hb⟩; have HB := hide (kept_trans HB.out hb); have CE := hide (CE.out.kept hb); obtain ⟨c0, c1, c2, c3, c4, c5, c6, c7, c8, c9, c10, c11, c12, c13, c14, c15, c16, c17, c18, c19, c20⟩ := CE.out.cells rfl; clear hb))
          all_goals (go_ret; refine ⟨ret_bool ?_, HB.out⟩; clear HB CE hb1 hb2 hb3 hb4 hb5 hne hnb; first | (simp [*]; done) | (simp [*] <;> omega))
      · have t1 : (st == 1) = false := by simpa using h1
        have t2 : (st != 1) = true := by simpa using h1
        go_enter Tryz.func23, Tryz.ntmps23
        go_upto_region 1 with (fail)
        generalize w.alloc (.cells (clC _) 38) = w1 at CE HB ⊢
        obtain ⟨c0, c1, c2, c3, c4, c5, c6, c7, c8, c9, c10, c11, c12, c13, c14, c15, c16, c17, c18, c19, c20⟩ := CE.out.cells rfl
        dsimp only at c0 c1 c2 c3 c4 c5 c6 c7 c8 c9 c10 c11 c20
        go_wp2_with (first
          | ((with_reducible refine wpList_load_ce (y := ⟨st, (p1, p2), (v1, v2), ⟨ck, cc, cq, ca, cb, co, cv⟩, [a0, a1, a2, a3, a4, a5, a6, a7], true⟩) rfl ?_ ?_ CE.out.all ?_); rfl; rfl)
          | ((with_reducible refine wpList_build_one (i := 1) (u := .agg #[.int .i64 p1, .int .i64 p2]) ?_ ?_ (fill_cp p1 p2 _) ?_); rfl; rfl)
          | (go_at_call 52; (with_reducible refine (hb1 _).mono ?_); rintro e w2 ⟨rfl, hb⟩; have HB := hide (kept_trans HB.out hb); have CE := hide (CE.out.kept hb); obtain ⟨c0, c1, c2, c3, c4, c5, c6, c7, c8, c9, c10, c11, c12, c13, c14, c15, c16, c17, c18, c19, c20⟩ := CE.out.cells rfl; clear hb)
          | (go_at_call 52; (with_reducible refine (hb2 _).mono ?_); rintro e w2 ⟨rfl, hb⟩; have HB := hide (kept_trans HB.out hb); have CE := hide (CE.out.kept hb); obtain ⟨c0, c1, c2, c3, c4, c5, c6, c7, c8, c9, c10, c11, c12, c13, c14, c15, c16, c17, c18, c19, c20⟩ := CE.out.cells rfl; clear hb)
          | (go_at_call 54; (with_reducible refine (hb3 _).mono ?_); rintro e w2 ⟨rfl, hb⟩; have HB := hide (kept_trans HB.out hb); have CE := hide (CE.out.kept hb); obtain ⟨c0, c1, c2, c3, c4, c5, c6, c7, c8, c9, c10, c11, c12, c13, c14, c15, c16, c17, c18, c19, c20⟩ := CE.out.cells rfl; clear hb)
          | (go_at_call 55; (with_reducible refine (hb4 _).mono ?_); rintro e w2 ⟨rfl, hb⟩; have HB := hide (kept_trans HB.out hb); have CE := hide (CE.out.kept hb); obtain ⟨c0, c1, c2, c3, c4, c5, c6, c7, c8, c9, c10, c11, c12, c13, c14, c15, c16, c17, c18, c19, c20⟩ := CE.out.cells rfl; clear hb)
          | (go_at_call 53; (with_reducible refine (hb5 _).mono ?_); rintro e w2 ⟨rfl, hb⟩; have HB := hide (kept_trans HB.out hb); have CE := hide (CE.out.kept hb); obtain ⟨c0, c1, c2, c3, c4, c5, c6, c7, c8, c9, c10, c11, c12, c13, c14, c15, c16, c17, c18, c19, c20⟩ := CE.out.cells rfl; clear hb))
        all_goals (go_ret; refine ⟨ret_bool ?_, HB.out⟩; clear HB CE hb1 hb2 hb3 hb4 hb5 hne hnb; simp [*])
end Go.Proofs.YtiaegloipnhhdaaGreat
/- What a Kind names: holdsOf. No condition. -/
namespace Go.Proofs.YtiaegloipnhhdaaGreat
set_option maxRecDepth 100000
open Go.RowKit
def okK (k : Int) : Bool := decide (1 ≤ k) && decide (k ≤ 11)
/-- What a kind names, as the program's own seven flags. -/
def hC (k : Int) : Array Value := #[.bool (okK k && nmI k), .bool (okK k && nmB k), .bool (okK k && nmC k), .bool (okK k && nmA k), .bool (okK k && nmX k), .bool (okK k && nmD k), .bool (okK k && nmZ k)]
theorem hC_none {k : Int} (h : okK k = false) : hC k = #[.bool false, .bool false, .bool false, .bool false, .bool false, .bool false, .bool false] := by unfold hC; rw [h]; rfl
end Go.Proofs.YtiaegloipnhhdaaGreat
/- The program's only: a letter without what its kind does not name. Results, stores of whole letters. Conditions: the lists are as long as they are. -/
namespace Go.Proofs.YtiaegloipnhhdaaGreat
set_option maxRecDepth 100000
open Go.RowKit
theorem ltC_size {m : Lt} (h : LtWf m) : (ltC m).size = 51 := by unfold ltC; rw [List.size_toArray]; exact Lt.len h
theorem results_ce {fn : Func} {tmps : Array Value} {w : World} {a h : Nat} {t : TypeId} {x : Cl} (hf : fn.results = #[.cell a 38]) (ht : tmps.getD a undef = .pointer (some ⟨h, 0, none⟩)) (L : CeAt w h t x) :
    (results fn tmps).run Tryz.prog w = .ok (.agg (clC x)) w :=
  results_cell_row hf tmps w h t _ _ _ ht L.r ce_under rfl (by rw [clC_size L.l]; exact ce_info)
theorem one_lt (m : Lt) : ∀ v, v ∈ m.l → v.oneCell' = true := fun v hv => by
  unfold Lt.l at hv
  simp only [List.mem_cons, List.mem_append, List.not_mem_nil, or_false] at hv
  rcases hv with rfl | rfl | rfl | rfl | rfl | rfl | rfl | hv | hv | hv | hv | rfl
  all_goals first | rfl | exact one_cm _ v hv | exact one_ints v hv | exact one_cl _ v hv
section
variable {ops : Array Oper} {rest : List Oper} {d : Option Tmp} {ty : TypeId} {ps : String} {af : Array Edge} {x u : Operand} {a : Act} {w : World} {Q : Exit → Act → World → Prop} {b o : Nat} {t : TypeId} {m y : Lt}
theorem wpList_store_lc {c : Cm} (hx : a.eval x = .pointer (some ⟨b, 7, none⟩)) (hy : a.eval u = .agg #[.int .i64 c.k, .int .i64 c.c, .int .i64 c.q, .string c.key, .string c.en, .string c.old, .string c.val]) (L : LAt w b t m) (h : ∀ w', LAt w' b t { m with c := c } → w.grownBy w' (some b) → wpList Tryz.prog ops Q rest (a.put d undef) w') :
    wpList Tryz.prog ops Q ({ dst := d, op := .store 34 x u, type := ty, pos := ps, after := af, guard := none } :: rest) a w :=
  wpList_plain rfl fun _ hK => wp_store_lc (y := c) rfl hx hy L fun w' h1 h2 => hK _ _ (h w' h1 h2)
theorem wpList_store_lzp {z : ByteArray}
    (hx : a.eval x = .pointer (some ⟨b, 50, none⟩)) (hy : a.eval u = .string z) (L : LAt w b t m) (h : ∀ w', LAt w' b t { m with z := z } → w.grownBy w' (some b) → wpList Tryz.prog ops Q rest (a.put d undef) w') :
    wpList Tryz.prog ops Q ({ dst := d, op := .store 9 x u, type := ty, pos := ps, after := af, guard := none } :: rest) a w :=
  wpList_plain rfl fun K hK => by
    have hz := L.z
    have hf := L.r.free 50
    have hp := L.put (m' := { m with z := z }) (A := m.hd ++ (m.c.l ++ (cellsR m.a ++ (m.x.l ++ cellsR m.d)))) (ys := [.string m.z]) (vs := [.string z]) (B := []) (o := 50) (by unfold Lt.l Lt.hd; simp) (by unfold Lt.l Lt.hd; simp) (by
      have h3 : m.c.l.length = 7 := rfl
      have h4 : m.hd.length = 7 := rfl
      have h5 := Cl.len L.wf.x
      simp only [List.length_append, length_cellsR, L.wf.a, L.wf.d, h3, h4, h5]) rfl ⟨L.wf.a, L.wf.x, L.wf.d⟩
    have hg := grown_setCells b [.string z] 50 w
    have h2 := hK _ _ (h _ hp hg)
    unfold Oper.wp execOp
    simp only [hx, hy]
    go_simp
    exact h2
end
theorem zero_lt : (#[.int .i64 0, .int .i64 0, .int .i64 0, .int .i64 0, .int .i64 0, .int .i64 0, .int .i64 0, .int .i64 0, .int .i64 0, .int .i64 0, .string ⟨#[]⟩, .string ⟨#[]⟩, .string ⟨#[]⟩, .string ⟨#[]⟩, .int .i64 0, .int .i64 0, .int .i64 0, .int .i64 0, .int .i64 0, .int .i64 0, .int .i64 0, .int .i64 0, .int .i64 0, .int .i64 0, .int .i64 0, .int .i64 0, .int .i64 0, .int .i64 0, .int .i64 0, .int .i64 0, .string ⟨#[]⟩, .string ⟨#[]⟩, .string ⟨#[]⟩, .string ⟨#[]⟩, .int .i64 0, .int .i64 0, .int .i64 0, .int .i64 0, .int .i64 0, .int .i64 0, .int .i64 0, .int .i64 0, .bool false, .int .i64 0, .int .i64 0, .int .i64 0, .int .i64 0, .int .i64 0, .int .i64 0, .int .i64 0, .string ⟨#[]⟩] : Array Value) = ltC zeroLt := rfl
theorem zero_cl : (#[.int .i64 0, .int .i64 0, .int .i64 0, .int .i64 0, .int .i64 0, .int .i64 0, .int .i64 0, .int .i64 0, .string ⟨#[]⟩, .string ⟨#[]⟩, .string ⟨#[]⟩, .string ⟨#[]⟩, .int .i64 0, .int .i64 0, .int .i64 0, .int .i64 0, .int .i64 0, .int .i64 0, .int .i64 0, .int .i64 0, .bool false] : Array Value) = clC zeroCl := rfl
theorem wf_zeroLt : LtWf zeroLt := ⟨rfl, rfl, rfl⟩
theorem below_own {a b c : World} {g : Nat} (h : Below a.heap.size a b) (hg : b.grownBy c (some g)) (hl : a.heap.size ≤ g) : Below a.heap.size a c := by
  obtain ⟨e1, e2, e3, e4, e5⟩ := hg
  have := h.size
  exact h.trans ⟨e1, e2, e3, e4, fun k hk => e5 k (by omega) (fun e => by injection e; omega)⟩
theorem flags7 {w : World} {g : Nat} {t : TypeId} {b0 b1 b2 b3 b4 b5 b6 : Value} (h : Row w g t #[b0, b1, b2, b3, b4, b5, b6]) : w.cell? ⟨g, 0, none⟩ = some b0 ∧ w.cell? ⟨g, 1, none⟩ = some b1 ∧ w.cell? ⟨g, 2, none⟩ = some b2 ∧ w.cell? ⟨g, 3, none⟩ = some b3 ∧ w.cell? ⟨g, 4, none⟩ = some b4 ∧ w.cell? ⟨g, 5, none⟩ = some b5 ∧ w.cell? ⟨g, 6, none⟩ = some b6 := ⟨h.cell 0, h.cell 1, h.cell 2, h.cell 3, h.cell 4, h.cell 5, h.cell 6⟩
end Go.Proofs.YtiaegloipnhhdaaGreat
