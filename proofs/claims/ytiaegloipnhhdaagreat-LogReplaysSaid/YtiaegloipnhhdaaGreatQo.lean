/- Commands, attributes, ballots held against each other by !=, ==, in plain words. Conditions: attributes are eight numbers. -/
import Derived.Test.YtiaegloipnhhdaaGreatQn
import Derived.Test.YtiaegloipnhhdaaGreatQf
import Derived.Test.YtiaegloipnhhdaaGreatQm
import Derived.Test.YtiaegloipnhhdaaGreatQl
import Derived.Test.YtiaegloipnhhdaaGreatQd
namespace Go.Proofs.YtiaegloipnhhdaaGreat
set_option maxRecDepth 100000
open Go.RowKit
theorem neq_cm (x y : Cm) (w : World) : (binOp .neq 34 (.agg #[.int .i64 x.k, .int .i64 x.c, .int .i64 x.q, .string x.key, .string x.en, .string x.old, .string x.val]) (.agg #[.int .i64 y.k, .int .i64 y.c, .int .i64 y.q, .string y.key, .string y.en, .string y.old, .string y.val])).run Tryz.prog w = .ok (.bool (!sameC x y)) w := by
  rw [run_neq_struct, show (10000 : Nat) = 9998 + 2 from rfl, eqd_cmd]
  rfl
theorem eql_bal (x y : Int × Int) (w : World) : (binOp .eql 32 (.agg #[.int .i64 x.1, .int .i64 x.2]) (.agg #[.int .i64 y.1, .int .i64 y.2])).run Tryz.prog w = .ok (.bool (sameP x y)) w := by
  rw [run_eql_struct, show (10000 : Nat) = 9998 + 2 from rfl, eqd_bal]
  rfl
theorem neq_at {x y : List Int} (hx : x.length = 8) (hy : y.length = 8) (w : World) : (binOp .neq 36 (.agg (cA x)) (.agg (cA y))).run Tryz.prog w = .ok (.bool (!decide (x = y))) w := by
  obtain ⟨a0, a1, a2, a3, a4, a5, a6, a7, rfl⟩ := len8 hx
  obtain ⟨b0, b1, b2, b3, b4, b5, b6, b7, rfl⟩ := len8 hy
  have h := neq_attr a0 a1 a2 a3 a4 a5 a6 a7 b0 b1 b2 b3 b4 b5 b6 b7 w
  exact h
end Go.Proofs.YtiaegloipnhhdaaGreat
/- The program's follows. Condition: attributes are eight numbers. -/
namespace Go.Proofs.YtiaegloipnhhdaaGreat
set_option maxRecDepth 100000
open Go.RowKit
theorem over_eq (c o : Cl) : overL o c = (!(o.st == 3 && ((c.st != 3 || !sameC c.c o.c) || !decide (c.a = o.a))) && (!(sameP c.v o.v && decide (c.st < o.st)) && (!ltP c.p o.p && !ltP c.v o.v))) := by
  unfold overL
  have e : (c.st != 3) = !(c.st == 3) := rfl
  rw [e]
  generalize (o.st == 3) = a
  generalize (c.st == 3) = b
  generalize sameC c.c o.c = d
  generalize decide (c.a = o.a) = f
  generalize ltP c.p o.p = g
  generalize ltP c.v o.v = h
  generalize decide (c.st < o.st) = i
  generalize sameP c.v o.v = j
  cases a <;> cases b <;> cases d <;> cases f <;> cases g <;> cases h <;> cases i <;> cases j <;> rfl
set_option maxHeartbeats 16000000 in
theorem pfollows_any (c o : Cl) (hc : c.a.length = 8) (ho : o.a.length = 8) (w : World) : Calls Tryz.prog 24 #[.agg (clC c), .agg (clC o)] w fun y w' => y = .returned (.bool (overL o c)) ∧ Below w.heap.size w w' := by
  rw [over_eq]
  have hb1 := hide (fun w => below_any c.p.1 c.p.2 o.p.1 o.p.2 w)
  have hb2 := hide (fun w => below_any c.v.1 c.v.2 o.v.1 o.v.2 w)
  have hcm := fun w => neq_cm c.c o.c w
  have hat := fun w => neq_at hc ho w
  have hev := fun w => eql_bal c.v o.v w
  have X0 := (CeAt.new (x := c) hc w 38).kept ((Below.refl _ _).alloc (Nat.le_refl _) (.cells (clC o) 38))
  have X1 := CeAt.new (x := o) ho (w.alloc (.cells (clC c) 38)) 38
  rw [show (w.alloc (.cells (clC c) 38)).heap.size = w.heap.size + 1 by simp] at X1
  have XC := hide X0
  have XO := hide X1
  have HB := hide (kept_alloc (kept_alloc (kept_refl w) (.cells (clC c) 38)) (.cells (clC o) 38))
  clear X0 X1
  obtain ⟨st, ⟨p1, p2⟩, ⟨v1, v2⟩, ⟨ck, cc, cq, ca, cb, co, cv⟩, a, s⟩ := c
  obtain ⟨st', ⟨p1', p2'⟩, ⟨v1', v2'⟩, ⟨ck', cc', cq', ca', cb', co', cv'⟩, a', s'⟩ := o
  dsimp only at hc ho hb1 hb2 hcm hat hev ⊢
  obtain ⟨a0, a1, a2, a3, a4, a5, a6, a7, rfl⟩ := len8 hc
  obtain ⟨b0, b1, b2, b3, b4, b5, b6, b7, rfl⟩ := len8 ho
  clear hc ho
  simp only [cA, cellsR, List.map_cons, List.map_nil] at hat
  generalize sameC ⟨ck, cc, cq, ca, cb, co, cv⟩ ⟨ck', cc', cq', ca', cb', co', cv'⟩ = q3 at hcm ⊢
  generalize decide ([a0, a1, a2, a3, a4, a5, a6, a7] = [b0, b1, b2, b3, b4, b5, b6, b7]) = q4 at hat ⊢
  generalize sameP (v1, v2) (v1', v2') = q5 at hev ⊢
  generalize ltP (p1, p2) (p1', p2') = q7 at hb1 ⊢
  generalize ltP (v1, v2) (v1', v2') = q8 at hb2 ⊢
  go_enter Tryz.func24, Tryz.ntmps24
  go_upto_region 1 with (fail)
  generalize (w.alloc (.cells (clC _) 38)).alloc (.cells (clC _) 38) = w1 at XC XO HB ⊢
  generalize w.heap.size + 1 = go at XO ⊢
  obtain ⟨gc, hgc⟩ : ∃ g, w.heap.size = g := ⟨_, rfl⟩
  rw [hgc] at XC ⊢
  clear hgc
  obtain ⟨c0, c1, c2, c3, c4, c5, c6, c7, c8, c9, c10, c11, c12, c13, c14, c15, c16, c17, c18, c19, c20⟩ := XC.out.cells rfl
  obtain ⟨o0, o1, o2, o3, o4, o5, o6, o7, o8, o9, o10, o11, o12, o13, o14, o15, o16, o17, o18, o19, o20⟩ := XO.out.cells rfl
  dsimp only at c0 o0 c1 o1 c2 o2 c3 o3 c4 o4 c5 o5 c6 o6 c7 o7 c8 o8 c9 o9 c10 o10 c11 o11 c20 o20
  go_wp2_with (first
    | (go_at_call 53; (with_reducible refine (hb1.out _).mono ?_); rintro e w2 ⟨rfl, hb⟩; have HB := hide (kept_trans HB.out hb); replace XC := hide (XC.out.kept hb); replace XO := hide (XO.out.kept hb); clear hb; obtain ⟨-, -, -, c3, c4, -, -, -, -, -, -, -, -, -, -, -, -, -, -, -, -⟩ := XC.out.cells rfl; obtain ⟨-, -, -, o3, o4, -, -, -, -, -, -, -, -, -, -, -, -, -, -, -, -⟩ := XO.out.cells rfl; dsimp only at c3 c4 o3 o4)
    | (go_at_call 53; (with_reducible refine (hb2.out _).mono ?_); rintro e w2 ⟨rfl, hb⟩; have HB := hide (kept_trans HB.out hb); clear hb))
  all_goals (go_ret; refine ⟨ret_bool ?_, HB.out⟩; clear HB XC XO hb1 hb2 hcm hat hev; first | (simp [*]; done) | (simp [*] <;> omega) | (have h9 : decide (st < st') = false := decide_eq_false (by omega); have h8 : (st' == 3) = false := beq_eq_false_iff_ne.2 (by assumption); simp [*]))
end Go.Proofs.YtiaegloipnhhdaaGreat
/- The program's Set. Conditions: the Log lies in memory, the given cell's attributes are eight numbers; it holds few. -/
namespace Go.Proofs.YtiaegloipnhhdaaGreat
set_option maxRecDepth 100000
open Go.RowKit Go.Maps
theorem set_no' {x : Lw} {i : Int × Int} {c : Cl} (h : maySet x i c = false) : setL x i c = x := by unfold setL; rw [h]; rfl
theorem set_yes' {x : Lw} {i : Int × Int} {c : Cl} (h : maySet x i c = true) : setL x i c = ⟨putL x.k i c, x.d⟩ := by unfold setL; rw [h]; rfl
theorem right_ok {r s : Int} (h : rightI r s = true) : Ok (r, s) := by
  obtain ⟨⟨a, b⟩, c, d⟩ := rightI_says h
  exact ⟨by unfold I64; simp only; omega, by unfold I64; simp only; omega⟩
/-- While Set goes on: the instance's block, the cell's. -/
structure Sg (W w : World) (g b : Nat) (x : Lw) (i1 i2 : Int) (c : Cl) (bi bc : Nat) : Prop where
  pg : Pg w g b x
  bi : Row w bi 30 #[.int .i64 i1, .int .i64 i2]
  bc : CeAt w bc 38 c
  low : Below W.heap.size W w
section
variable {W w w' : World} {g b : Nat} {x : Lw} {i1 i2 : Int} {c : Cl} {bi bc : Nat}
theorem Sg.kept (h : Sg W w g b x i1 i2 c bi bc) (hb : Below w.heap.size w w') : Sg W w' g b x i1 i2 c bi bc := ⟨h.pg.below hb, h.bi.below hb h.bi.lt, h.bc.kept hb, kept_trans h.low hb⟩
theorem Sg.start (h : Pg w g b x) (i1 i2 : Int) (h8 : c.a.length = 8) : Sg w ((w.alloc (.cells #[.int .i64 i1, .int .i64 i2] 30)).alloc (.cells (clC c) 38)) g b x i1 i2 c w.heap.size (w.heap.size + 1) := by
  have hx := CeAt.new (x := c) h8 (w.alloc (.cells #[.int .i64 i1, .int .i64 i2] 30)) 38
  rw [show (w.alloc (.cells #[.int .i64 i1, .int .i64 i2] 30)).heap.size = w.heap.size + 1 by simp] at hx
  exact ⟨(h.alloc _).alloc _, (Row.new w _ _).alloc _, hx, kept_alloc (kept_alloc (kept_refl w) _) _⟩
/-- What Set answers. -/
def SetP (w : World) (g b : Nat) (x : Lw) (i : Int × Int) (c : Cl) (e : Ending) (w' : World) : Prop :=
  e = .returned (.bool (maySet x i c)) ∧ Pg w' g b (setL x i c) ∧ Kq (fun k => k = b) w w'
theorem SetP.no {i : Int × Int} (hm : maySet x i c = false) (ho : Pg w' g b x) (hb : Below w.heap.size w w') : SetP w g b x i c (.returned (.bool false)) w' :=
  ⟨by rw [hm], by rw [set_no' hm]; exact ho, .of_below hb⟩
end
set_option maxHeartbeats 16000000 in
theorem pset_any {g b : Nat} {w : World} {x : Lw} {c : Cl} (h : Pg w g b x) (h8 : c.a.length = 8) (hl : x.k.length ≤ 1000000000) (i1 i2 : Int) :
    Calls Tryz.prog 7 #[.pointer (some ⟨g, 0, none⟩), .agg #[.int .i64 i1, .int .i64 i2], .agg (clC c)] w (SetP w g b x (i1, i2) c) := by
  have H0 := hide (Sg.start h i1 i2 h8)
  have hup := h.kl.up
  have HKL := hide h.kl
  have HR := hide (fun w => i_right_any i1 i2 w)
  have HG := hide (fun w (h : Pg w g b x) => pgone_any h i1 i2)
  have HC := hide (fun w => prightcell_any c h8 w)
  have HLT := hide h.lt
  have HN : Hid ((rightI i1 i2 = false ∨ goneL x.d (i1, i2) = true ∨ rightCl c = false) → maySet x (i1, i2) c = false) := hide (fun h => by
    cases hm : maySet x (i1, i2) c
    · rfl
    · obtain ⟨a1, a2, a3, _⟩ := may_parts hm
      rcases h with h | h | h
      · rw [h] at a1; cases a1
      · rw [h] at a2; cases a2
      · rw [h] at a3; cases a3)
  clear h
  cases q1 : rightI i1 i2
  · skip
    have hm := HN.out (Or.inl q1)
    have HM := hide hm
    simp only [q1] at HR
    clear q1 hm
    go_enter Tryz.func7, Tryz.ntmps7
    go_upto_region 1 with (fail)
    generalize (w.alloc (.cells #[.int .i64 i1, .int .i64 i2] 30)).alloc (.cells (clC c) 38) = w1 at H0 ⊢
    have HBI := hide (show w.heap.size ≤ w.heap.size + 1 by omega)
    obtain ⟨bc, hbc⟩ : ∃ bc, w.heap.size + 1 = bc := ⟨_, rfl⟩
    rw [hbc] at H0 ⊢
    obtain ⟨bi, hbi⟩ : ∃ bi, w.heap.size = bi := ⟨_, rfl⟩
    rw [hbi] at H0 ⊢
    clear hbi hbc
    have c0 := H0.out.bi.cell 0
    have c1 := H0.out.bi.cell 1
    go_wp2_with (first
      | ((with_reducible refine wpList_load_ce h8 ?_ ?_ H0.out.bc.all ?_); rfl; rfl)
      | (go_at_call 21; (with_reducible refine (HR.out _).mono ?_); rintro e w2 ⟨rfl, hb2⟩; replace H0 := hide (H0.out.kept hb2); clear hb2 c0 c1; have c0 := H0.out.bi.cell 0; have c1 := H0.out.bi.cell 1)
      | (go_at_call 22; (with_reducible refine (HG.out _ H0.out.pg).mono ?_); rintro e w3 ⟨rfl, hb2⟩; replace H0 := hide (H0.out.kept hb2); clear hb2 c0 c1; have c0 := H0.out.bi.cell 0; have c1 := H0.out.bi.cell 1)
      | (go_at_call 23; (with_reducible refine (HC.out _).mono ?_); rintro e w4 ⟨rfl, hb2⟩; replace H0 := hide (H0.out.kept hb2); clear hb2 c0 c1; have c0 := H0.out.bi.cell 0; have c1 := H0.out.bi.cell 1))
    go_ret
    exact SetP.no HM.out H0.out.pg H0.out.low
  · have hok := right_ok q1
    cases q2 : goneL x.d (i1, i2)
    · cases q3 : rightCl c
      · skip
        have hm := HN.out (Or.inr (Or.inr q3))
        have HM := hide hm
        simp only [q1, q2, q3] at HR HG HC
        clear q1 q2 q3 hm
        go_enter Tryz.func7, Tryz.ntmps7
        go_upto_region 1 with (fail)
        generalize (w.alloc (.cells #[.int .i64 i1, .int .i64 i2] 30)).alloc (.cells (clC c) 38) = w1 at H0 ⊢
        have HBI := hide (show w.heap.size ≤ w.heap.size + 1 by omega)
        obtain ⟨bc, hbc⟩ : ∃ bc, w.heap.size + 1 = bc := ⟨_, rfl⟩
        rw [hbc] at H0 ⊢
        obtain ⟨bi, hbi⟩ : ∃ bi, w.heap.size = bi := ⟨_, rfl⟩
        rw [hbi] at H0 ⊢
        clear hbi hbc
        have c0 := H0.out.bi.cell 0
        have c1 := H0.out.bi.cell 1
        go_wp2_with (first
          | ((with_reducible refine wpList_load_ce h8 ?_ ?_ H0.out.bc.all ?_); rfl; rfl)
          | (go_at_call 21; (with_reducible refine (HR.out _).mono ?_); rintro e w2 ⟨rfl, hb2⟩; replace H0 := hide (H0.out.kept hb2); clear hb2 c0 c1; have c0 := H0.out.bi.cell 0; have c1 := H0.out.bi.cell 1)
          | (go_at_call 22; (with_reducible refine (HG.out _ H0.out.pg).mono ?_); rintro e w3 ⟨rfl, hb2⟩; replace H0 := hide (H0.out.kept hb2); clear hb2 c0 c1; have c0 := H0.out.bi.cell 0; have c1 := H0.out.bi.cell 1)
          | (go_at_call 23; (with_reducible refine (HC.out _).mono ?_); rintro e w4 ⟨rfl, hb2⟩; replace H0 := hide (H0.out.kept hb2); clear hb2 c0 c1; have c0 := H0.out.bi.cell 0; have c1 := H0.out.bi.cell 1))
        go_ret
        exact SetP.no HM.out H0.out.pg H0.out.low
      · have HMK := hide (fun (hq : ∀ was, cellL x.k (i1, i2) = some was → overL was c = true) => may_mk q1 q2 q3 hq)
        have HMN := hide (fun (was : Cl) (hw : cellL x.k (i1, i2) = some was) (ho : overL was c = false) => (show maySet x (i1, i2) c = false from by
          cases hm : maySet x (i1, i2) c
          · rfl
          · have := (may_parts hm).2.2.2 was hw
            rw [ho] at this; cases this))
        simp only [q1, q2, q3] at HR HG HC
        clear q1 q2 q3
        have HLK := hide (fun (w' : World) (z : Pg w' g b x) => z.pm.look hup (i1, i2) hok)
        have HPT := hide (fun (w' : World) (q : Pg w' g b x) => q.pm.put hup (i1, i2) hok c hl)
        have hy8 := opt_a8 HKL.out (i1, i2)
        clear hup hok hl
        obtain ⟨o, ho⟩ : ∃ o, cellL x.k (i1, i2) = o := ⟨_, rfl⟩
        have HO := hide ho
        rw [ho] at HLK hy8 HMK HMN
        clear ho
        replace HLK : Hid (∀ (w' : World) (_ : Pg w' g b x), (Instr.lookup 60 (.map (some b)) (.agg #[.int .i64 i1, .int .i64 i2]) true).run Tryz.prog w' = .ok (.tuple #[.agg (clC (o.getD zeroCl)), .bool o.isSome]) w') := HLK
        have HFO := hide (fun w => pfollows_any c (o.getD zeroCl) h8 hy8 w)
        obtain ⟨mm, hmm⟩ : ∃ mm, maySet x (i1, i2) c = mm := ⟨_, rfl⟩
        have HMM := hide hmm
        have HQM : Hid (mm = (!(o.isSome) || overL (o.getD zeroCl) c)) := hide (by
          rw [← hmm]
          cases o with
          | none => exact HMK.out (fun was hw => by cases hw)
          | some was =>
            show _ = overL was c
            cases hov : overL was c
            · exact HMN.out was rfl hov
            · exact HMK.out (fun w2 hw => by cases hw; exact hov))
        clear hmm HMK HMN
        generalize o.getD zeroCl = y at HLK hy8 HFO HQM ⊢
        generalize o.isSome = q at HLK HQM ⊢
        generalize overL y c = ov at HFO HQM
        go_enter Tryz.func7, Tryz.ntmps7
        go_upto_region 1 with (fail)
        generalize (w.alloc (.cells #[.int .i64 i1, .int .i64 i2] 30)).alloc (.cells (clC c) 38) = w1 at H0 ⊢
        have HBI := hide (show w.heap.size ≤ w.heap.size + 1 by omega)
        obtain ⟨bc, hbc⟩ : ∃ bc, w.heap.size + 1 = bc := ⟨_, rfl⟩
        rw [hbc] at H0 ⊢
        obtain ⟨bi, hbi⟩ : ∃ bi, w.heap.size = bi := ⟨_, rfl⟩
        rw [hbi] at H0 ⊢
        clear hbi hbc
        have c0 := H0.out.bi.cell 0
        have c1 := H0.out.bi.cell 1
        go_upto_region 3 with (first
          | ((with_reducible refine wpList_load_ce h8 ?_ ?_ H0.out.bc.all ?_); rfl; rfl)
          | (go_at_call 21; (with_reducible refine (HR.out _).mono ?_); rintro e w2 ⟨rfl, hb2⟩; replace H0 := hide (H0.out.kept hb2); clear hb2 c0 c1; have c0 := H0.out.bi.cell 0; have c1 := H0.out.bi.cell 1)
          | (go_at_call 22; (with_reducible refine (HG.out _ H0.out.pg).mono ?_); rintro e w3 ⟨rfl, hb2⟩; replace H0 := hide (H0.out.kept hb2); clear hb2 c0 c1; have c0 := H0.out.bi.cell 0; have c1 := H0.out.bi.cell 1)
          | (go_at_call 23; (with_reducible refine (HC.out _).mono ?_); rintro e w4 ⟨rfl, hb2⟩; replace H0 := hide (H0.out.kept hb2); clear hb2 c0 c1; have c0 := H0.out.bi.cell 0; have c1 := H0.out.bi.cell 1))
        clear c0 c1 HR HG HC
        obtain ⟨w5, rfl⟩ : ∃ w5 : World, w5 = w4 := ⟨_, rfl⟩
        have HS0 := hide (show (fun w' : World => Sg w w' g b x i1 i2 c bi bc ∧ Below w5.heap.size w5 w') w5 from ⟨H0.out, kept_refl w5⟩)
        have STEP := hide (show ∀ u v : World, (fun w' : World => Sg w w' g b x i1 i2 c bi bc ∧ Below w5.heap.size w5 w') u → Below u.heap.size u v → (fun w' : World => Sg w w' g b x i1 i2 c bi bc ∧ Below w5.heap.size w5 w') v from fun u v h hb => ⟨h.1.kept hb, kept_trans h.2 hb⟩)
        replace HLK : Hid (∀ (w' : World) (_ : Sg w w' g b x i1 i2 c bi bc), (Instr.lookup 60 (.map (some b)) (.agg #[.int .i64 i1, .int .i64 i2]) true).run Tryz.prog w' = .ok (.tuple #[.agg (clC y), .bool q]) w') := hide (fun w' z => HLK.out w' z.pg)
        refine wp_region_noPanic ?_
        refine wp_region_U 11 (fun w' : World => Sg w w' g b x i1 i2 c bi bc ∧ Below w5.heap.size w5 w') (by kernel_rfl) ?_
        have HD := hide (show (fun w' : World => Sg w w' g b x i1 i2 c bi bc ∧ Below w5.heap.size w5 w') w5.drew from STEP.out _ _ HS0.out (kept_drewN (kept_refl _) 1))
        generalize w5.drew = wd at HD ⊢
        refine anyU_take2 (i := 0) (v := .pointer (some ⟨g, 0, none⟩)) (by simp only [List.getElem?_toArray, List.getElem?_cons_zero]; exact rfl) (by kernel_rfl) 12 (by kernel_rfl) (by kernel_rfl) (fun _ _ _ h => h) (by kernel_rfl) (by kernel_rfl) (by kernel_rfl) (by kernel_rfl) (Or.inl ⟨by rfl, fun w hSw => (by go_simp; try with_reducible rfl)⟩) (by with_reducible exact HD.out) ?_
        try simp only [Act.put, List.setIfInBounds_toArray, List.set_cons_zero, List.set_cons_succ]
        refine anyU_take2 (i := 1) (v := .pointer (some ⟨g, 0, none⟩)) (by simp only [List.getElem?_toArray, List.getElem?_cons_succ, List.getElem?_cons_zero]; exact rfl) (by kernel_rfl) 12 (by kernel_rfl) (by kernel_rfl) (fun _ _ _ h => h) (by kernel_rfl) (by kernel_rfl) (by kernel_rfl) (by kernel_rfl) (Or.inl ⟨by rfl, fun w hSw => (by go_simp; try with_reducible rfl)⟩) (by with_reducible exact HD.out) ?_
        try simp only [Act.put, List.setIfInBounds_toArray, List.set_cons_zero, List.set_cons_succ]
        refine anyU_take2 (i := 2) (v := .pointer (some ⟨g, 0, none⟩)) (by simp only [List.getElem?_toArray, List.getElem?_cons_succ, List.getElem?_cons_zero]; exact rfl) (by kernel_rfl) 12 (by kernel_rfl) (by kernel_rfl) (fun _ _ _ h => h) (by kernel_rfl) (by kernel_rfl) (by kernel_rfl) (by kernel_rfl) (Or.inl ⟨by rfl, fun w hSw => (by go_simp; try with_reducible rfl)⟩) (by with_reducible exact HD.out) ?_
        try simp only [Act.put, List.setIfInBounds_toArray, List.set_cons_zero, List.set_cons_succ]
        refine anyU_take2 (i := 3) (v := .map (some b)) (by simp only [List.getElem?_toArray, List.getElem?_cons_succ, List.getElem?_cons_zero]; exact rfl) (by kernel_rfl) 12 (by kernel_rfl) (by kernel_rfl) (fun _ _ _ h => h) (by kernel_rfl) (by kernel_rfl) (by kernel_rfl) (by kernel_rfl) (Or.inl ⟨by rfl, fun w hSw => (by have x0 := hSw.1.pg.known; go_simp; try with_reducible rfl)⟩) (by with_reducible exact HD.out) ?_
        try simp only [Act.put, List.setIfInBounds_toArray, List.set_cons_zero, List.set_cons_succ]
        refine anyU_take2 (i := 4) (v := .agg #[.int .i64 i1, .int .i64 i2]) (by simp only [List.getElem?_toArray, List.getElem?_cons_succ, List.getElem?_cons_zero]; exact rfl) (by kernel_rfl) 12 (by kernel_rfl) (by kernel_rfl) (fun _ _ _ h => h) (by kernel_rfl) (by kernel_rfl) (by kernel_rfl) (by kernel_rfl) (Or.inl ⟨by rfl, fun w hSw => (by have x0 := hSw.1.bi.cell 0; have x1 := hSw.1.bi.cell 1; change w.cell? ⟨bi, 0, none⟩ = some (.int .i64 i1) at x0; change w.cell? ⟨bi, 1, none⟩ = some (.int .i64 i2) at x1; go_simp; try with_reducible rfl)⟩) (by with_reducible exact HD.out) ?_
        try simp only [Act.put, List.setIfInBounds_toArray, List.set_cons_zero, List.set_cons_succ]
        refine anyU_take2 (i := 5) (v := .tuple #[.agg (clC y), .bool q]) (by simp only [List.getElem?_toArray, List.getElem?_cons_succ, List.getElem?_cons_zero]; exact rfl) (by kernel_rfl) 12 (by kernel_rfl) (by kernel_rfl) (fun _ _ _ h => h) (by kernel_rfl) (by kernel_rfl) (by kernel_rfl) (by kernel_rfl) (Or.inl ⟨by rfl, fun w hSw => (by have x0 := HLK.out _ hSw.1; go_simp; try with_reducible rfl)⟩) (by with_reducible exact HD.out) ?_
        try simp only [Act.put, List.setIfInBounds_toArray, List.set_cons_zero, List.set_cons_succ]
        refine anyU_take2 (i := 6) (v := .tuple #[.agg (clC y), .bool q]) (by simp only [List.getElem?_toArray, List.getElem?_cons_succ, List.getElem?_cons_zero]; exact rfl) (by kernel_rfl) 12 (by kernel_rfl) (by kernel_rfl) (fun _ _ _ h => h) (by kernel_rfl) (by kernel_rfl) (by kernel_rfl) (by kernel_rfl) (Or.inl ⟨by rfl, fun w hSw => (by go_simp; try with_reducible rfl)⟩) (by with_reducible exact HD.out) ?_
        try simp only [Act.put, List.setIfInBounds_toArray, List.set_cons_zero, List.set_cons_succ]
        refine anyU_take2 (i := 7) (v := .agg (clC y)) (by simp only [List.getElem?_toArray, List.getElem?_cons_succ, List.getElem?_cons_zero]; exact rfl) (by kernel_rfl) 12 (by kernel_rfl) (by kernel_rfl) (fun _ _ _ h => h) (by kernel_rfl) (by kernel_rfl) (by kernel_rfl) (by kernel_rfl) (Or.inl ⟨by rfl, fun w hSw => (by go_simp; try with_reducible rfl)⟩) (by with_reducible exact HD.out) ?_
        try simp only [Act.put, List.setIfInBounds_toArray, List.set_cons_zero, List.set_cons_succ]
        refine anyU_take2 (i := 8) (v := .bool q) (by simp only [List.getElem?_toArray, List.getElem?_cons_succ, List.getElem?_cons_zero]; exact rfl) (by kernel_rfl) 12 (by kernel_rfl) (by kernel_rfl) (fun _ _ _ h => h) (by kernel_rfl) (by kernel_rfl) (by kernel_rfl) (by kernel_rfl) (Or.inl ⟨by rfl, fun w hSw => (by go_simp; try with_reducible rfl)⟩) (by with_reducible exact HD.out) ?_
        try simp only [Act.put, List.setIfInBounds_toArray, List.set_cons_zero, List.set_cons_succ]
        have HBF := hide ((Below.refl wd.heap.size wd).alloc (Nat.le_refl _) (.cells (clC zeroCl) 38))
        have hgd := STEP.out _ _ HD.out HBF.out
        have HN := hide (CeAt.new (x := zeroCl) rfl wd 38)
        refine anyU_one (i := 9) (by kernel_rfl) (by simp only [List.getElem?_toArray, List.getElem?_cons_succ, List.getElem?_cons_zero]; exact rfl) (fun K hK => ?_)
        go_simp
        rw [zero_cl]
        refine hK.out _ _ (fun _ _ => hgd) ?_
        clear hK K hgd
        try simp only [Act.put, List.setIfInBounds_toArray, List.set_cons_zero, List.set_cons_succ]
        generalize wd.alloc (.cells (clC zeroCl) 38) = wf at HN HBF ⊢
        refine anyU_one (i := 10) (by kernel_rfl) (by simp only [List.getElem?_toArray, List.getElem?_cons_succ, List.getElem?_cons_zero]; exact rfl) (fun K hK => ?_)
        rw [if_pos (by rfl)]
        refine wp_store_xw rfl hy8 rfl rfl HN.out ?_
        intro wg hce hgr
        have hbl := below_own HBF.out hgr (Nat.le_refl _)
        have HG := hide (STEP.out _ _ HD.out hbl)
        refine hK.out _ _ (fun _ _ => HG.out) ?_
        clear hK K
        try simp only [Act.put]
        replace HN := hide hce
        clear hce hgr hbl HBF HD
        generalize wd.heap.size = bd at HN ⊢
        refine anyU_one (i := 11) (by kernel_rfl) (by simp only [List.getElem?_toArray, List.getElem?_cons_succ, List.getElem?_cons_zero]; exact rfl) (fun K hK => ?_)
        try go_simp
        refine hK.out _ _ (fun e _ => absurd rfl e) ?_
        clear hK K
        try simp only [Act.put]
        refine anyU_done (by kernel_rfl) ?_
        refine NoPanic.normal ?_
        try simp only [Act.put]
        replace H0 := hide HG.out.1
        clear HG HS0 STEP HLK
        obtain ⟨w6, rfl⟩ : ∃ w6 : World, w6 = wg := ⟨_, rfl⟩
        cases q
        case false =>
          have HY := hide (show mm = true from HQM.out)
          clear HQM
          go_upto_region 6 with (fail)
          replace H0 := hide (H0.out.kept (kept_drewN (kept_refl w6) 1))
          replace H0 : Hid (Sg w w6.drew g b x i1 i2 c bi bc) := H0
          have HD := hide (show (fun w' : World => w' = w6.drew) w6.drew from rfl)
          refine wp_region_noPanic ?_
          refine wp_region_U 6 (fun w' : World => w' = w6.drew) (by kernel_rfl) ?_
          generalize w6.drew = wd at HD H0 ⊢
          obtain ⟨w8, hr8, hp8, hg8⟩ := HPT.out wd H0.out.pg
          refine anyU_take2 (i := 0) (v := .pointer (some ⟨g, 0, none⟩)) (by simp only [List.getElem?_toArray, List.getElem?_cons_zero]; exact rfl) (by kernel_rfl) 12 (by kernel_rfl) (by kernel_rfl) (fun _ _ _ h => h) (by kernel_rfl) (by kernel_rfl) (by kernel_rfl) (by kernel_rfl) (Or.inl ⟨by rfl, fun w hSw => (by go_simp; try with_reducible rfl)⟩) (by with_reducible exact HD.out) ?_
          try simp only [Act.put, List.setIfInBounds_toArray, List.set_cons_zero, List.set_cons_succ]
          refine anyU_take2 (i := 1) (v := .pointer (some ⟨g, 0, none⟩)) (by simp only [List.getElem?_toArray, List.getElem?_cons_succ, List.getElem?_cons_zero]; exact rfl) (by kernel_rfl) 12 (by kernel_rfl) (by kernel_rfl) (fun _ _ _ h => h) (by kernel_rfl) (by kernel_rfl) (by kernel_rfl) (by kernel_rfl) (Or.inl ⟨by rfl, fun w hSw => (by go_simp; try with_reducible rfl)⟩) (by with_reducible exact HD.out) ?_
          try simp only [Act.put, List.setIfInBounds_toArray, List.set_cons_zero, List.set_cons_succ]
          refine anyU_take2 (i := 2) (v := .pointer (some ⟨g, 0, none⟩)) (by simp only [List.getElem?_toArray, List.getElem?_cons_succ, List.getElem?_cons_zero]; exact rfl) (by kernel_rfl) 12 (by kernel_rfl) (by kernel_rfl) (fun _ _ _ h => h) (by kernel_rfl) (by kernel_rfl) (by kernel_rfl) (by kernel_rfl) (Or.inl ⟨by rfl, fun w hSw => (by go_simp; try with_reducible rfl)⟩) (by with_reducible exact HD.out) ?_
          try simp only [Act.put, List.setIfInBounds_toArray, List.set_cons_zero, List.set_cons_succ]
          refine anyU_take2 (i := 3) (v := .map (some b)) (by simp only [List.getElem?_toArray, List.getElem?_cons_succ, List.getElem?_cons_zero]; exact rfl) (by kernel_rfl) 12 (by kernel_rfl) (by kernel_rfl) (fun _ _ _ h => h) (by kernel_rfl) (by kernel_rfl) (by kernel_rfl) (by kernel_rfl) (Or.inl ⟨by rfl, fun w hSw => (by subst hSw; have x0 := H0.out.pg.known; go_simp; try with_reducible rfl)⟩) (by with_reducible exact HD.out) ?_
          try simp only [Act.put, List.setIfInBounds_toArray, List.set_cons_zero, List.set_cons_succ]
          refine anyU_take2 (i := 4) (v := .agg #[.int .i64 i1, .int .i64 i2]) (by simp only [List.getElem?_toArray, List.getElem?_cons_succ, List.getElem?_cons_zero]; exact rfl) (by kernel_rfl) 12 (by kernel_rfl) (by kernel_rfl) (fun _ _ _ h => h) (by kernel_rfl) (by kernel_rfl) (by kernel_rfl) (by kernel_rfl) (Or.inl ⟨by rfl, fun w hSw => (by subst hSw; have x0 := H0.out.bi.cell 0; have x1 := H0.out.bi.cell 1; change w.cell? ⟨bi, 0, none⟩ = some (.int .i64 i1) at x0; change w.cell? ⟨bi, 1, none⟩ = some (.int .i64 i2) at x1; go_simp; try with_reducible rfl)⟩) (by with_reducible exact HD.out) ?_
          try simp only [Act.put, List.setIfInBounds_toArray, List.set_cons_zero, List.set_cons_succ]
          refine anyU_take2 (i := 5) (v := .agg (clC c)) (by simp only [List.getElem?_toArray, List.getElem?_cons_succ, List.getElem?_cons_zero]; exact rfl) (by kernel_rfl) 12 (by kernel_rfl) (by kernel_rfl) (fun _ _ _ h => h) (by kernel_rfl) (by kernel_rfl) (by kernel_rfl) (by kernel_rfl) (Or.inl ⟨by rfl, fun w hSw => (by subst hSw; exact exec_load_gp rfl rfl H0.out.bc.all ce_under rfl (by rw [Cl.len h8]; exact ce_info))⟩) (by with_reducible exact HD.out) ?_
          try simp only [Act.put, List.setIfInBounds_toArray, List.set_cons_zero, List.set_cons_succ]
          refine anyU_one (i := 6) (by kernel_rfl) (by simp only [List.getElem?_toArray, List.getElem?_cons_succ, List.getElem?_cons_zero]; exact rfl) (fun K hK => ?_)
          go_simp
          refine hK.out _ _ (fun e _ => absurd rfl e) ?_
          clear hK K
          try simp only [Act.put]
          refine anyU_done (by kernel_rfl) ?_
          refine NoPanic.normal ?_
          try simp only [Act.put]
          have HF := hide (show Pg w8 g b ⟨putL x.k (i1, i2) c, x.d⟩ from ⟨H0.out.pg.row.grown hg8 (by have := H0.out.pg.ne; simpa using Ne.symm this), hp8, by have := HKL.out.set (i := (i1, i2)) (c := c) h8; rwa [set_yes' (by rw [HMM.out, HY.out])] at this⟩)
          have HK := hide (show Kq (fun k => k = b) w w8 from (Kq.of_below H0.out.low).trans (Kq.grown (o := fun k => k = b) hg8 (fun k e => by injection e with e; exact e.symm)) (fun k _ e => e))
          clear hr8 hp8 hg8
          go_wp2
          go_ret
          exact ⟨by rw [HMM.out, HY.out]; rfl, by rw [set_yes' (by rw [HMM.out, HY.out])]; exact HF.out, HK.out⟩
        case true =>
          cases ov
          case false =>
            have HY := hide (show mm = false from HQM.out)
            clear HQM
            go_wp2_with (first
              | ((with_reducible refine wpList_load_ce h8 ?_ ?_ H0.out.bc.all ?_); rfl; rfl)
              | ((with_reducible refine wpList_load_ce hy8 ?_ ?_ HN.out.all ?_); rfl; rfl)
              | (go_at_call 24; (with_reducible refine (HFO.out _).mono ?_); rintro e w7 ⟨rfl, hb2⟩; replace H0 := hide (H0.out.kept hb2); clear hb2))
            go_ret
            exact SetP.no (by rw [HMM.out, HY.out]) H0.out.pg H0.out.low
          case true =>
            have HY := hide (show mm = true from HQM.out)
            clear HQM
            go_upto_region 6 with (first
              | ((with_reducible refine wpList_load_ce h8 ?_ ?_ H0.out.bc.all ?_); rfl; rfl)
              | ((with_reducible refine wpList_load_ce hy8 ?_ ?_ HN.out.all ?_); rfl; rfl)
              | (go_at_call 24; (with_reducible refine (HFO.out _).mono ?_); rintro e w7 ⟨rfl, hb2⟩; replace H0 := hide (H0.out.kept hb2); clear hb2))
            clear HN
            obtain ⟨w6, rfl⟩ : ∃ w6 : World, w6 = w7 := ⟨_, rfl⟩
            replace H0 := hide (H0.out.kept (kept_drewN (kept_refl w6) 1))
            replace H0 : Hid (Sg w w6.drew g b x i1 i2 c bi bc) := H0
            have HD := hide (show (fun w' : World => w' = w6.drew) w6.drew from rfl)
            refine wp_region_noPanic ?_
            refine wp_region_U 6 (fun w' : World => w' = w6.drew) (by kernel_rfl) ?_
            generalize w6.drew = wd at HD H0 ⊢
            obtain ⟨w8, hr8, hp8, hg8⟩ := HPT.out wd H0.out.pg
            refine anyU_take2 (i := 0) (v := .pointer (some ⟨g, 0, none⟩)) (by simp only [List.getElem?_toArray, List.getElem?_cons_zero]; exact rfl) (by kernel_rfl) 12 (by kernel_rfl) (by kernel_rfl) (fun _ _ _ h => h) (by kernel_rfl) (by kernel_rfl) (by kernel_rfl) (by kernel_rfl) (Or.inl ⟨by rfl, fun w hSw => (by go_simp; try with_reducible rfl)⟩) (by with_reducible exact HD.out) ?_
            try simp only [Act.put, List.setIfInBounds_toArray, List.set_cons_zero, List.set_cons_succ]
            refine anyU_take2 (i := 1) (v := .pointer (some ⟨g, 0, none⟩)) (by simp only [List.getElem?_toArray, List.getElem?_cons_succ, List.getElem?_cons_zero]; exact rfl) (by kernel_rfl) 12 (by kernel_rfl) (by kernel_rfl) (fun _ _ _ h => h) (by kernel_rfl) (by kernel_rfl) (by kernel_rfl) (by kernel_rfl) (Or.inl ⟨by rfl, fun w hSw => (by go_simp; try with_reducible rfl)⟩) (by with_reducible exact HD.out) ?_
            try simp only [Act.put, List.setIfInBounds_toArray, List.set_cons_zero, List.set_cons_succ]
            refine anyU_take2 (i := 2) (v := .pointer (some ⟨g, 0, none⟩)) (by simp only [List.getElem?_toArray, List.getElem?_cons_succ, List.getElem?_cons_zero]; exact rfl) (by kernel_rfl) 12 (by kernel_rfl) (by kernel_rfl) (fun _ _ _ h => h) (by kernel_rfl) (by kernel_rfl) (by kernel_rfl) (by kernel_rfl) (Or.inl ⟨by rfl, fun w hSw => (by go_simp; try with_reducible rfl)⟩) (by with_reducible exact HD.out) ?_
            try simp only [Act.put, List.setIfInBounds_toArray, List.set_cons_zero, List.set_cons_succ]
            refine anyU_take2 (i := 3) (v := .map (some b)) (by simp only [List.getElem?_toArray, List.getElem?_cons_succ, List.getElem?_cons_zero]; exact rfl) (by kernel_rfl) 12 (by kernel_rfl) (by kernel_rfl) (fun _ _ _ h => h) (by kernel_rfl) (by kernel_rfl) (by kernel_rfl) (by kernel_rfl) (Or.inl ⟨by rfl, fun w hSw => (by subst hSw; have x0 := H0.out.pg.known; go_simp; try with_reducible rfl)⟩) (by with_reducible exact HD.out) ?_
            try simp only [Act.put, List.setIfInBounds_toArray, List.set_cons_zero, List.set_cons_succ]
            refine anyU_take2 (i := 4) (v := .agg #[.int .i64 i1, .int .i64 i2]) (by simp only [List.getElem?_toArray, List.getElem?_cons_succ, List.getElem?_cons_zero]; exact rfl) (by kernel_rfl) 12 (by kernel_rfl) (by kernel_rfl) (fun _ _ _ h => h) (by kernel_rfl) (by kernel_rfl) (by kernel_rfl) (by kernel_rfl) (Or.inl ⟨by rfl, fun w hSw => (by subst hSw; have x0 := H0.out.bi.cell 0; have x1 := H0.out.bi.cell 1; change w.cell? ⟨bi, 0, none⟩ = some (.int .i64 i1) at x0; change w.cell? ⟨bi, 1, none⟩ = some (.int .i64 i2) at x1; go_simp; try with_reducible rfl)⟩) (by with_reducible exact HD.out) ?_
            try simp only [Act.put, List.setIfInBounds_toArray, List.set_cons_zero, List.set_cons_succ]
            refine anyU_take2 (i := 5) (v := .agg (clC c)) (by simp only [List.getElem?_toArray, List.getElem?_cons_succ, List.getElem?_cons_zero]; exact rfl) (by kernel_rfl) 12 (by kernel_rfl) (by kernel_rfl) (fun _ _ _ h => h) (by kernel_rfl) (by kernel_rfl) (by kernel_rfl) (by kernel_rfl) (Or.inl ⟨by rfl, fun w hSw => (by subst hSw; exact exec_load_gp rfl rfl H0.out.bc.all ce_under rfl (by rw [Cl.len h8]; exact ce_info))⟩) (by with_reducible exact HD.out) ?_
            try simp only [Act.put, List.setIfInBounds_toArray, List.set_cons_zero, List.set_cons_succ]
            refine anyU_one (i := 6) (by kernel_rfl) (by simp only [List.getElem?_toArray, List.getElem?_cons_succ, List.getElem?_cons_zero]; exact rfl) (fun K hK => ?_)
            go_simp
            refine hK.out _ _ (fun e _ => absurd rfl e) ?_
            clear hK K
            try simp only [Act.put]
            refine anyU_done (by kernel_rfl) ?_
            refine NoPanic.normal ?_
            try simp only [Act.put]
            have HF := hide (show Pg w8 g b ⟨putL x.k (i1, i2) c, x.d⟩ from ⟨H0.out.pg.row.grown hg8 (by have := H0.out.pg.ne; simpa using Ne.symm this), hp8, by have := HKL.out.set (i := (i1, i2)) (c := c) h8; rwa [set_yes' (by rw [HMM.out, HY.out])] at this⟩)
            have HK := hide (show Kq (fun k => k = b) w w8 from (Kq.of_below H0.out.low).trans (Kq.grown (o := fun k => k = b) hg8 (fun k e => by injection e with e; exact e.symm)) (fun k _ e => e))
            clear hr8 hp8 hg8
            go_wp2
            go_ret
            exact ⟨by rw [HMM.out, HY.out]; rfl, by rw [set_yes' (by rw [HMM.out, HY.out])]; exact HF.out, HK.out⟩
    · skip
      have hm := HN.out (Or.inr (Or.inl q2))
      have HM := hide hm
      simp only [q1, q2] at HR HG
      clear q1 q2 hm
      go_enter Tryz.func7, Tryz.ntmps7
      go_upto_region 1 with (fail)
      generalize (w.alloc (.cells #[.int .i64 i1, .int .i64 i2] 30)).alloc (.cells (clC c) 38) = w1 at H0 ⊢
      have HBI := hide (show w.heap.size ≤ w.heap.size + 1 by omega)
      obtain ⟨bc, hbc⟩ : ∃ bc, w.heap.size + 1 = bc := ⟨_, rfl⟩
      rw [hbc] at H0 ⊢
      obtain ⟨bi, hbi⟩ : ∃ bi, w.heap.size = bi := ⟨_, rfl⟩
      rw [hbi] at H0 ⊢
      clear hbi hbc
      have c0 := H0.out.bi.cell 0
      have c1 := H0.out.bi.cell 1
      go_wp2_with (first
        | ((with_reducible refine wpList_load_ce h8 ?_ ?_ H0.out.bc.all ?_); rfl; rfl)
        | (go_at_call 21; (with_reducible refine (HR.out _).mono ?_); rintro e w2 ⟨rfl, hb2⟩; replace H0 := hide (H0.out.kept hb2); clear hb2 c0 c1; have c0 := H0.out.bi.cell 0; have c1 := H0.out.bi.cell 1)
        | (go_at_call 22; (with_reducible refine (HG.out _ H0.out.pg).mono ?_); rintro e w3 ⟨rfl, hb2⟩; replace H0 := hide (H0.out.kept hb2); clear hb2 c0 c1; have c0 := H0.out.bi.cell 0; have c1 := H0.out.bi.cell 1)
        | (go_at_call 23; (with_reducible refine (HC.out _).mono ?_); rintro e w4 ⟨rfl, hb2⟩; replace H0 := hide (H0.out.kept hb2); clear hb2 c0 c1; have c0 := H0.out.bi.cell 0; have c1 := H0.out.bi.cell 1))
      go_ret
      exact SetP.no HM.out H0.out.pg H0.out.low
end Go.Proofs.YtiaegloipnhhdaaGreat
