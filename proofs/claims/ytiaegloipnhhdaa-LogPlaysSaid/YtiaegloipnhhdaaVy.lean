/- An own row of structs grows by what lies elsewhere, as a step of a drawn region; an empty literal; a list with one more in its midst. Conditions: the rows have room. -/
import Derived.Test.YtiaegloipnhhdaaWo
import Derived.Test.YtiaegloipnhhdaaWm
import Derived.Test.YtiaegloipnhhdaaWd
namespace Go.Proofs.Ytiaegloipnhhdaa
set_option maxRecDepth 100000
open Go.RowKit
/-- append of what lies onto an own row, as a step of a drawn region. -/
theorem step_append_rw {T e : TypeId} {sz : Nat} (hE : ElM T e sz) (hs0 : 0 < sz) {ops : Array Oper} {d : Option Tmp} {ty : TypeId} {ps : String} {af : Array Edge} {s x : Operand} {a : Act} {w : World} {K : Act → World → Prop} {Q : Exit → Act → World → Prop} {E : Prop} {base : Nat} {v : Value} {xs : List (List Value)} {A : Option Addr} {m c : Nat} {zs : List (List Value)}
    (hs : a.eval s = v) (hown : Rw base e sz w v xs) (hx : a.eval x = .slice A m c) (ha : AllV sz zs) (hm : zs.length = m) (hc : A = none → c = 0) (hl : Els sz w A zs) (hb : xs.length + m ≤ 100000) (hbase : base ≤ w.heap.size)
    (hk : ∀ v' w', Rw base e sz w' v' (xs ++ zs) → w.grownBy w' v.ownBlock → K (a.put d v') w') :
    if Region.wanted ({ dst := d, op := .call { callee := .builtin .append, args := #[s, x], argTypes := #[T, T] }, type := ty, pos := ps, after := af, guard := none } : Oper) (yielded ops a.tmps) = true then Oper.wp Try.prog { dst := d, op := .call { callee := .builtin .append, args := #[s, x], argTypes := #[T, T] }, type := ty, pos := ps, after := af, guard := none } a w K Q else E := by
  rw [if_pos (by simp [Region.wanted])]
  obtain ⟨i, zz, by', hu, hi, hz0, hz1, hz2, hz3, hby⟩ := hE
  have hbb : (xs.length + m) * by' ≤ 100000 * 200 := Nat.mul_le_mul hb hby
  unfold Rw at hown
  obtain ⟨v', w', hr, r1, r2, _⟩ := run_append_els (P := Try.prog) (w := w) base T ty e i zz by' hu hi hz0 hz1 hz2 hs0 hz3 v xs.length xs hown A m c zs ha hm hc hl (by omega) (by omega) hbase
  unfold Oper.wp execOp
  simp only [resolve, invoke, builtin, Sem.run_bind, Sem.run_pure, Result.andThen_ok, List.map_toArray, List.map_cons, List.map_nil, hs, hx, hr]
  refine hk v' w' ?_ r2
  unfold Rw
  rw [List.length_append, hm]
  exact r1
/-- Literals as steps of a drawn region. -/
theorem step_lit0 {T : TypeId} {ops : Array Oper} {d : Option Tmp} {ty : TypeId} {ps : String} {af : Array Edge} {a : Act} {w w' : World} {v : Value} {K : Act → World → Prop} {Q : Exit → Act → World → Prop} {E : Prop}
    (hr : (Instr.buildSlice T 0 #[]).run Try.prog w = .ok v w') (hk : K (a.put d v) w') :
    if Region.wanted ({ dst := d, op := .buildSlice T 0 #[], type := ty, pos := ps, after := af, guard := none } : Oper) (yielded ops a.tmps) = true then Oper.wp Try.prog { dst := d, op := .buildSlice T 0 #[], type := ty, pos := ps, after := af, guard := none } a w K Q else E := by
  rw [if_pos (by simp [Region.wanted])]
  unfold Oper.wp execOp
  simp only [List.map_toArray, List.map_nil, Sem.run_bind, Sem.run_pure, Result.andThen_ok, hr]
  exact hk
theorem step_lit1 {T : TypeId} {ops : Array Oper} {d : Option Tmp} {ty : TypeId} {ps : String} {af : Array Edge} {a : Act} {w w' : World} {v u : Value} {x : Operand} {K : Act → World → Prop} {Q : Exit → Act → World → Prop} {E : Prop}
    (hx : a.eval x = u) (hr : (Instr.buildSlice T 1 #[(0, u)]).run Try.prog w = .ok v w') (hk : K (a.put d v) w') :
    if Region.wanted ({ dst := d, op := .buildSlice T 1 #[(0, x)], type := ty, pos := ps, after := af, guard := none } : Oper) (yielded ops a.tmps) = true then Oper.wp Try.prog { dst := d, op := .buildSlice T 1 #[(0, x)], type := ty, pos := ps, after := af, guard := none } a w K Q else E := by
  rw [if_pos (by simp [Region.wanted])]
  unfold Oper.wp execOp
  simp only [List.map_toArray, List.map_cons, List.map_nil, hx, Sem.run_bind, Sem.run_pure, Result.andThen_ok, hr]
  exact hk
theorem lit0_inst (w : World) : (Instr.buildSlice 40 0 #[]).run Try.prog w = .ok (.slice (some ⟨w.heap.size, 0, none⟩) 0 0) (w.alloc (.cells #[] 28)) := by
  have u9 := Try.underlying40
  have z9 := Try.sizeOf28
  go_simp
theorem lit0_cell (w : World) : (Instr.buildSlice 46 0 #[]).run Try.prog w = .ok (.slice (some ⟨w.heap.size, 0, none⟩) 0 0) (w.alloc (.cells #[] 37)) := by
  have u9 := Try.underlying46
  have z9 := Try.sizeOf37
  go_simp
theorem lit_cell_l {x : Cl} (h : x.a.length = 8) (w : World) : (Instr.buildSlice 46 1 #[(0, .agg (clC x))]).run Try.prog w = .ok (.slice (some ⟨w.heap.size, 0, none⟩) 1 1) (w.alloc (.cells x.l.toArray 37)) := lit_cell h w
/-- A row of the call's own grows: the elder blocks stay. -/
theorem below_grow {W w w' : World} {e : TypeId} {sz : Nat} {v : Value} {xs : List (List Value)} (h : Below W.heap.size W w) (hr : Rw W.heap.size e sz w v xs) (hg : w.grownBy w' v.ownBlock) : Below W.heap.size W w' :=
  ⟨hg.os.trans h.os, hg.tape.trans h.tape, hg.output.trans h.output, Nat.le_trans h.size hg.size, fun k hk => (hg.block k (Nat.lt_of_lt_of_le hk h.size) (fun e => by have := (hr.lt k e.symm).1; omega)).trans (h.block k hk)⟩
/-- An empty literal. -/
theorem rw_lit0 (base : Nat) (e : TypeId) (sz : Nat) (w : World) (hb : base ≤ w.heap.size) : Rw base e sz (w.alloc (.cells #[] e)) (.slice (some ⟨w.heap.size, 0, none⟩) 0 0) [] := by
  unfold Rw
  refine ⟨by simp [cellsV], .inr ⟨w.heap.size, 0, #[], rfl, hb, ?_, Nat.le_refl _, by unfold maxLen; omega, by simp, by simp [cellsV]⟩⟩
  exact Row.new w e #[]
theorem els_lit {e : TypeId} {w : World} {g : Nat} {z : List Value} {sz : Nat} (h : Row w g e z.toArray) (hz : z.length = sz) (h1 : ∀ u ∈ z, u.oneCell' = true) : Els sz w (some ⟨g, 0, none⟩) [z] :=
  els_row h (fun x hx => by rw [List.mem_singleton.1 hx]; exact ⟨hz, h1⟩) (by show z = cellsV [z]; simp [cellsV])
theorem put_mid {l : List Lc} {i : Int × Int} {c : Cl} (h : hereL l i = false) : putL l i c = l.take (posL l i) ++ ([⟨i, c⟩] ++ l.drop (posL l i)) := by
  unfold putL
  rw [h]
  rfl
theorem iV_mid (l : List Lc) (p : Nat) (i : Int × Int) (c : Cl) : (iV l).take p ++ [[.int .i64 i.1, .int .i64 i.2]] ++ (iV l).drop p = iV (l.take p ++ ([⟨i, c⟩] ++ l.drop p)) := by
  unfold iV
  rw [List.map_append, List.map_append, List.map_take, List.map_drop, List.append_assoc]
  rfl
theorem cV_mid (l : List Lc) (p : Nat) (i : Int × Int) (c : Cl) : (cV l).take p ++ [c.l] ++ (cV l).drop p = cV (l.take p ++ ([⟨i, c⟩] ++ l.drop p)) := by
  unfold cV
  rw [List.map_append, List.map_append, List.map_take, List.map_drop, List.append_assoc]
  rfl
end Go.Proofs.Ytiaegloipnhhdaa
/- The document's Set. Conditions: the Log lies in memory, its list rises, its cells' attributes and the given ones are eight numbers; it holds few. -/
namespace Go.Proofs.Ytiaegloipnhhdaa
set_option maxRecDepth 100000
open Go.RowKit
theorem ce_allc (x : Cl) : (clC x).all (·.oneCell') = true := all_oneCell_toArray (one_cl x)
theorem set_no {x : Lw} {i : Int × Int} {c : Cl} (h : maySet x i c = false) : setL x i c = x := by unfold setL; rw [h]; rfl
theorem Ro.putCell {base g gC n b p : Nat} {w w' : World} {vI : Value} {k : List Lc} {d : List Int} {e : Lc} {i : Int × Int} {c : Cl} (h : Ro base w g vI (.slice (some ⟨gC, 0, none⟩) n b) k d) (he : k[p]? = some e) (hi : e.i = i) (h8 : c.a.length = 8)
    (hr : Rw base 37 21 w' (.slice (some ⟨gC, 0, none⟩) n b) ((cV k).set p c.l)) (hg : w.grownBy w' (some gC)) : Ro base w' g vI (.slice (some ⟨gC, 0, none⟩) n b) (k.set p ⟨i, c⟩) d := by
  have e1 : cV (k.set p ⟨i, c⟩) = (cV k).set p c.l := by unfold cV; rw [List.map_set]
  have e2 : iV (k.set p ⟨i, c⟩) = iV k := by
    unfold iV
    rw [List.map_set]
    apply List.ext_getElem?
    intro j
    by_cases hj : p = j
    · subst hj
      rw [List.getElem?_set_self (by rw [List.length_map]; exact (List.getElem?_eq_some_iff.1 he).1), List.getElem?_map, he, ← hi]
      rfl
    · rw [List.getElem?_set_ne hj]
  refine ⟨h.row.grown hg (rw_off h.rc h.row (by decide)), by rw [e2]; exact h.ri.far hg (fun e => rw_ap h.ri h.rc (by decide) gC e.symm rfl), by rw [e1]; exact hr, h.d7, fun x hx => ?_⟩
  rcases List.mem_or_eq_of_mem_set hx with hx | rfl
  · exact h.l8 x hx
  · exact h8
theorem set_yes {x : Lw} {i : Int × Int} {c : Cl} (h : maySet x i c = true) : setL x i c = ⟨putL x.k i c, x.d⟩ := by unfold setL; rw [h]; rfl
/-- What Set answers. -/
def SetA (base : Nat) (w : World) (g : Nat) (vI vC : Value) (k : List Lc) (d : List Int) (i : Int × Int) (c : Cl) (e : Ending) (w' : World) : Prop :=
  e = .returned (.bool (maySet ⟨k, d⟩ i c)) ∧ (∃ vI' vC', Ro base w' g vI' vC' (setL ⟨k, d⟩ i c).k d) ∧ Kq (roO g vI vC) w w'
theorem SetA.no {base g : Nat} {w w' : World} {vI vC : Value} {k : List Lc} {d : List Int} {i : Int × Int} {c : Cl} (hm : maySet ⟨k, d⟩ i c = false) (ho : Ro base w' g vI vC k d) (hb : Below w.heap.size w w') : SetA base w g vI vC k d i c (.returned (.bool false)) w' :=
  ⟨by rw [hm], ⟨vI, vC, by rw [set_no hm]; exact ho⟩, Kq.of_below hb⟩
/-- While Set goes on: the instance's block, the cell's. -/
structure Sz (base : Nat) (W w : World) (g : Nat) (vI vC : Value) (k : List Lc) (d : List Int) (i1 i2 : Int) (c : Cl) : Prop where
  ro : Ro base w g vI vC k d
  bi : Row w W.heap.size 28 #[.int .i64 i1, .int .i64 i2]
  bc : CeAt w (W.heap.size + 1) 37 c
  low : Below W.heap.size W w
theorem Sz.kept {base g : Nat} {W w w' : World} {vI vC : Value} {k : List Lc} {d : List Int} {i1 i2 : Int} {c : Cl} (h : Sz base W w g vI vC k d i1 i2 c) (hb : Below w.heap.size w w') : Sz base W w' g vI vC k d i1 i2 c :=
  ⟨h.ro.below hb, h.bi.below hb h.bi.lt, h.bc.kept hb, kept_trans h.low hb⟩
theorem Sz.start {base g : Nat} {w : World} {vI vC : Value} {k : List Lc} {d : List Int} (h : Ro base w g vI vC k d) (i1 i2 : Int) {c : Cl} (h8 : c.a.length = 8) :
    Sz base w ((w.alloc (.cells #[.int .i64 i1, .int .i64 i2] 28)).alloc (.cells (clC c) 37)) g vI vC k d i1 i2 c := by
  have hx := CeAt.new (x := c) h8 (w.alloc (.cells #[.int .i64 i1, .int .i64 i2] 28)) 37
  have hs : (w.alloc (.cells #[.int .i64 i1, .int .i64 i2] 28)).heap.size = w.heap.size + 1 := by simp
  rw [hs] at hx
  exact ⟨(h.alloc _).alloc _, (Row.new w _ _).alloc _, hx, kept_alloc (kept_alloc (kept_refl w) _) _⟩
/-- Between the two lists' stores. -/
structure Sy (base B : Nat) (W w : World) (g : Nat) (vI vC : Value) (K k : List Lc) (d : List Int) (c : Cl) : Prop where
  row : Row w g 48 (lgC vI vC d)
  ri : Rw B 28 2 w vI (iV K)
  rc : Rw base 37 21 w vC (cV k)
  bc : CeAt w (W.heap.size + 1) 37 c
  kq : Kq (fun b => b = g) W w
section
variable {base B g : Nat} {W w w' wx : World} {vI vC : Value} {K k : List Lc} {d : List Int} {c : Cl}
theorem Sy.below (h : Sy base B W w g vI vC K k d c) (hb : Below w.heap.size w w') : Sy base B W w' g vI vC K k d c :=
  ⟨h.row.below hb h.row.lt, h.ri.below hb, h.rc.below hb, h.bc.kept hb, h.kq.trans (Kq.of_below hb) (fun _ _ e => e)⟩
theorem Sy.start {i1 i2 : Int} {w5 : World} (h : Sz base W w5 g vI vC k d i1 i2 c) (hb : Below w5.heap.size w5 w) {q : Value} (hq : Rw w5.heap.size 28 2 w q (iV K)) (hg : g < W.heap.size) : Sy base w5.heap.size W (w.setCell ⟨g, 0, none⟩ q) g q vC K k d c := by
  have hz := h.kept hb
  have hgr := grown_put (grown_refl w (some g)) 0 q
  exact ⟨lgC_put0 vI vC q d ▸ hz.ro.row.put 0 q, hq.far hgr (rw_off hq hz.ro.row (by decide)), hz.ro.rc.far hgr (rw_off hz.ro.rc hz.ro.row (by decide)), ⟨hz.bc.r.grown hgr (fun e => by injection e with e; omega), hz.bc.l⟩,
    (Kq.of_below hz.low).trans (Kq.grown (o := fun b => b = g) hgr (fun b e => by injection e with e; exact e.symm)) (fun _ _ e => e)⟩
theorem Sy.fin {p : Nat} {i : Int × Int} {wt : World} (h : Sy base B W w g vI vC (k.take p ++ ([⟨i, c⟩] ++ k.drop p)) k d c) {q : Value} (hq : Rw wt.heap.size 37 21 w q (cV (k.take p ++ ([⟨i, c⟩] ++ k.drop p)))) (hb : base ≤ B ∧ base ≤ wt.heap.size) (h7 : d.length = 7) (h8 : ∀ e, e ∈ k → e.c.a.length = 8) (hc : c.a.length = 8) :
    Ro base (w.setCell ⟨g, 1, none⟩ q) g vI q (k.take p ++ ([⟨i, c⟩] ++ k.drop p)) d ∧ Kq (fun b => b = g) W (w.setCell ⟨g, 1, none⟩ q) := by
  have hgr := grown_put (grown_refl w (some g)) 1 q
  refine ⟨⟨lgC_put1 vI vC q d ▸ h.row.put 1 q, (h.ri.far hgr (rw_off h.ri h.row (by decide))).low hb.1, (hq.far hgr (rw_off hq h.row (by decide))).low hb.2, h7, fun e he => ?_⟩, h.kq.trans (Kq.grown (o := fun b => b = g) hgr (fun b e => by injection e with e; exact e.symm)) (fun _ _ e => e)⟩
  rcases List.mem_append.1 he with he | he
  · exact h8 e (List.mem_of_mem_take he)
  · rcases List.mem_append.1 he with he | he
    · rw [List.mem_singleton.1 he]; exact hc
    · exact h8 e (List.mem_of_mem_drop he)
end
set_option maxHeartbeats 16000000 in
theorem rset_any {base g : Nat} {w : World} {vI vC : Value} {k : List Lc} {d : List Int} {c : Cl} (h : Ro base w g vI vC k d) (up : k.Pairwise fun e f => ltP e.i f.i = true) (hb : base ≤ w.heap.size) (h8 : c.a.length = 8) (hl : k.length ≤ 1000) (i1 i2 : Int) :
    Calls Try.prog 17 #[.pointer (some ⟨g, 0, none⟩), .agg #[.int .i64 i1, .int .i64 i2], .agg (clC c)] w (SetA base w g vI vC k d (i1, i2) c) := by
  obtain ⟨A, a, B, b, rfl, rfl, ha, hb2⟩ := h.form
  have H0 := hide (Sz.start h i1 i2 h8)
  have HR := hide (fun w => refrightinst_any i1 i2 w)
  have HG := hide (fun w (h : Ro base w g (.slice A k.length a) (.slice B k.length b) k d) => rgone_any h i1 i2)
  have HC := hide (fun w => rrightcell_any c h8 w)
  have HA := hide (fun w (h : Ro base w g (.slice A k.length a) (.slice B k.length b) k d) => rat_any h i1 i2 (by omega))
  have HN := hide (show (rightI i1 i2 = false ∨ goneL d (i1, i2) = true ∨ rightCl c = false) → maySet ⟨k, d⟩ (i1, i2) c = false from fun h => by
    cases hm : maySet ⟨k, d⟩ (i1, i2) c
    · rfl
    · obtain ⟨p1, p2, p3, _⟩ := may_parts hm
      rcases h with h | h | h
      · rw [p1] at h; cases h
      · rw [p2] at h; cases h
      · rw [p3] at h; cases h)
  have c0f : ∀ w', Sz base w w' g (.slice A k.length a) (.slice B k.length b) k d i1 i2 c → w'.cell? ⟨w.heap.size, 0, none⟩ = some (.int .i64 i1) ∧ w'.cell? ⟨w.heap.size, 1, none⟩ = some (.int .i64 i2) := fun w' h => ⟨h.bi.cell 0, h.bi.cell 1⟩
  have C0 := hide c0f
  clear c0f
  cases q1 : rightI i1 i2
  · skip
    have hm := HN.out (Or.inl q1)
    have HM := hide hm
    simp only [q1] at HR
    clear q1 hm
    go_enter Try.func17, Try.ntmps17
    go_upto_region 1 with (fail)
    generalize (w.alloc (.cells #[.int .i64 i1, .int .i64 i2] 28)).alloc (.cells (clC c) 37) = w1 at H0 ⊢
    obtain ⟨c0, c1⟩ := C0.out _ H0.out
    go_wp2_with (first
      | ((with_reducible refine wpList_load_ce h8 ?_ ?_ H0.out.bc.all ?_); rfl; rfl)
      | (go_at_call 36; (with_reducible refine (HR.out _).mono ?_); rintro e w2 ⟨rfl, hb2⟩; have H0 := hide (H0.out.kept hb2); obtain ⟨c0, c1⟩ := C0.out _ H0.out; clear hb2)
      | (go_at_call 20; (with_reducible refine (HG.out _ H0.out.ro).mono ?_); rintro e w3 ⟨rfl, hb2⟩; have H0 := hide (H0.out.kept hb2); obtain ⟨c0, c1⟩ := C0.out _ H0.out; clear hb2)
      | (go_at_call 37; (with_reducible refine (HC.out _).mono ?_); rintro e w4 ⟨rfl, hb2⟩; have H0 := hide (H0.out.kept hb2); obtain ⟨c0, c1⟩ := C0.out _ H0.out; clear hb2)
      | (go_at_call 38; (with_reducible refine (HA.out _ H0.out.ro).mono ?_); rintro e w5 ⟨rfl, hb2⟩; have H0 := hide (H0.out.kept hb2); obtain ⟨c0, c1⟩ := C0.out _ H0.out; clear hb2))
    go_ret
    exact SetA.no HM.out H0.out.ro H0.out.low
  · cases q2 : goneL d (i1, i2)
    · cases q3 : rightCl c
      · skip
        have hm := HN.out (Or.inr (Or.inr q3))
        have HM := hide hm
        simp only [q1, q2, q3] at HR HG HC
        clear q1 q2 q3 hm
        go_enter Try.func17, Try.ntmps17
        go_upto_region 1 with (fail)
        generalize (w.alloc (.cells #[.int .i64 i1, .int .i64 i2] 28)).alloc (.cells (clC c) 37) = w1 at H0 ⊢
        obtain ⟨c0, c1⟩ := C0.out _ H0.out
        go_wp2_with (first
          | ((with_reducible refine wpList_load_ce h8 ?_ ?_ H0.out.bc.all ?_); rfl; rfl)
          | (go_at_call 36; (with_reducible refine (HR.out _).mono ?_); rintro e w2 ⟨rfl, hb2⟩; have H0 := hide (H0.out.kept hb2); obtain ⟨c0, c1⟩ := C0.out _ H0.out; clear hb2)
          | (go_at_call 20; (with_reducible refine (HG.out _ H0.out.ro).mono ?_); rintro e w3 ⟨rfl, hb2⟩; have H0 := hide (H0.out.kept hb2); obtain ⟨c0, c1⟩ := C0.out _ H0.out; clear hb2)
          | (go_at_call 37; (with_reducible refine (HC.out _).mono ?_); rintro e w4 ⟨rfl, hb2⟩; have H0 := hide (H0.out.kept hb2); obtain ⟨c0, c1⟩ := C0.out _ H0.out; clear hb2)
          | (go_at_call 38; (with_reducible refine (HA.out _ H0.out.ro).mono ?_); rintro e w5 ⟨rfl, hb2⟩; have H0 := hide (H0.out.kept hb2); obtain ⟨c0, c1⟩ := C0.out _ H0.out; clear hb2))
        go_ret
        exact SetA.no HM.out H0.out.ro H0.out.low
      · simp only [q1, q2, q3] at HR HG HC
        cases hh : hereL k (i1, i2)
        · skip
          have hm : maySet ⟨k, d⟩ (i1, i2) c = true := may_mk q1 q2 q3 fun was hw => by rw [cell_none up hh] at hw; cases hw
          have HM := hide hm
          have hP := put_mid (c := c) hh
          simp only [hh] at HA
          have hpl := posL_le k (i1, i2)
          have L8 := hide h.l8
          have D7 := hide h.d7
          have hgw := h.lt
          have hA0 : A = none → a = 0 := by
            obtain ⟨A', a', e1, hx, _⟩ := els_own_form h.ri
            injection e1 with e1 _ e3
            subst e1 e3
            exact hx
          have hB0 : B = none → b = 0 := by
            obtain ⟨A', a', e1, hx, _⟩ := els_own_form h.rc
            injection e1 with e1 _ e3
            subst e1 e3
            exact hx
          generalize posL k (i1, i2) = p at hpl HA hP
          have HP := hide hP
          have HLT := hide (show ((iV k).take p).length = p by rw [List.length_take, iV_len]; omega)
          have HLT2 := hide (show ((cV k).take p).length = p by rw [List.length_take, cV_len]; omega)
          clear h hh hm hP q1 q2 q3 HN up
          obtain ⟨n, hn⟩ : ∃ n, k.length = n := ⟨_, rfl⟩
          have HNN := hide hn
          have HLD := hide (show ((iV k).drop p).length = n - p by rw [List.length_drop, iV_len, hn])
          have HLD2 := hide (show ((cV k).drop p).length = n - p by rw [List.length_drop, cV_len, hn])
          have HLC := hide (show (iV k).length ≤ a by rw [iV_len]; omega)
          have HLC2 := hide (show (cV k).length ≤ b by rw [cV_len]; omega)
          rw [hn] at H0 HG HA ha hb2 hpl hl C0
          have hpi : (p : Int) ≤ (n : Int) := by omega
          have hpa : p ≤ a := by omega
          have hpai : (p : Int) ≤ (a : Int) := by omega
          have hpb : p ≤ b := by omega
          have hpbi : (p : Int) ≤ (b : Int) := by omega
          clear hn
          go_enter Try.func17, Try.ntmps17
          go_upto_region 1 with (fail)
          generalize (w.alloc (.cells #[.int .i64 i1, .int .i64 i2] 28)).alloc (.cells (clC c) 37) = w1 at H0 ⊢
          obtain ⟨c0, c1⟩ := C0.out _ H0.out
          go_upto_region 10 with (first
            | ((with_reducible refine wpList_load_ce h8 ?_ ?_ H0.out.bc.all ?_); rfl; rfl)
            | (go_at_call 36; (with_reducible refine (HR.out _).mono ?_); rintro e w2 ⟨rfl, hb2⟩; have H0 := hide (H0.out.kept hb2); obtain ⟨c0, c1⟩ := C0.out _ H0.out; clear hb2)
            | (go_at_call 20; (with_reducible refine (HG.out _ H0.out.ro).mono ?_); rintro e w3 ⟨rfl, hb2⟩; have H0 := hide (H0.out.kept hb2); obtain ⟨c0, c1⟩ := C0.out _ H0.out; clear hb2)
            | (go_at_call 37; (with_reducible refine (HC.out _).mono ?_); rintro e w4 ⟨rfl, hb2⟩; have H0 := hide (H0.out.kept hb2); obtain ⟨c0, c1⟩ := C0.out _ H0.out; clear hb2)
            | (go_at_call 38; (with_reducible refine (HA.out _ H0.out.ro).mono ?_); rintro e w5 ⟨rfl, hb2⟩; have H0 := hide (H0.out.kept hb2); obtain ⟨c0, c1⟩ := C0.out _ H0.out; clear hb2))
          clear c0 c1
          have HEI := hide (fun w' (hb : Below w5.heap.size w5 w') => (show Els 2 w' A (iV k) from by
            have hr := (H0.out.ro.below hb).ri
            unfold Rw at hr
            rw [iV_len, HNN.out] at hr
            exact (els_own hr (iV_all k) (by omega)).1))
          refine wp_region_noPanic ?_
          refine wp_region_U 21 (fun w' : World => Below w5.heap.size w5 w') (by kernel_rfl) ?_
          have HD := hide (show Below w5.heap.size w5 w5.drew from kept_drewN (kept_refl _) 1)
          generalize w5.drew = wd at HD ⊢
          have hpv : (if a = p then A else Option.map (fun x => x.add (p * 2)) A) = partV 2 A a p := rfl
          refine anyU_take2 (i := 0) (v := .pointer (some ⟨g, 0, none⟩)) (by simp only [List.getElem?_toArray, List.getElem?_cons_zero]; exact rfl) (by kernel_rfl) 12 (by kernel_rfl) (by kernel_rfl) (fun _ _ _ h => h) (by kernel_rfl) (by kernel_rfl) (by kernel_rfl) (by kernel_rfl) (Or.inl ⟨by rfl, fun w hSw => (by go_simp; try with_reducible rfl)⟩) (by with_reducible exact HD.out) ?_
          try simp only [Act.put, List.setIfInBounds_toArray, List.set_cons_zero, List.set_cons_succ]
          refine anyU_take2 (i := 2) (v := .pointer (some ⟨g, 0, none⟩)) (by simp only [List.getElem?_toArray, List.getElem?_cons_succ, List.getElem?_cons_zero]; exact rfl) (by kernel_rfl) 12 (by kernel_rfl) (by kernel_rfl) (fun _ _ _ h => h) (by kernel_rfl) (by kernel_rfl) (by kernel_rfl) (by kernel_rfl) (Or.inl ⟨by rfl, fun w hSw => (by go_simp; try with_reducible rfl)⟩) (by with_reducible exact HD.out) ?_
          try simp only [Act.put, List.setIfInBounds_toArray, List.set_cons_zero, List.set_cons_succ]
          refine anyU_take2 (i := 3) (v := .pointer (some ⟨g, 0, none⟩)) (by simp only [List.getElem?_toArray, List.getElem?_cons_succ, List.getElem?_cons_zero]; exact rfl) (by kernel_rfl) 12 (by kernel_rfl) (by kernel_rfl) (fun _ _ _ h => h) (by kernel_rfl) (by kernel_rfl) (by kernel_rfl) (by kernel_rfl) (Or.inl ⟨by rfl, fun w hSw => (by go_simp; try with_reducible rfl)⟩) (by with_reducible exact HD.out) ?_
          try simp only [Act.put, List.setIfInBounds_toArray, List.set_cons_zero, List.set_cons_succ]
          refine anyU_take2 (i := 4) (v := .pointer (some ⟨g, 0, none⟩)) (by simp only [List.getElem?_toArray, List.getElem?_cons_succ, List.getElem?_cons_zero]; exact rfl) (by kernel_rfl) 12 (by kernel_rfl) (by kernel_rfl) (fun _ _ _ h => h) (by kernel_rfl) (by kernel_rfl) (by kernel_rfl) (by kernel_rfl) (Or.inl ⟨by rfl, fun w hSw => (by go_simp; try with_reducible rfl)⟩) (by with_reducible exact HD.out) ?_
          try simp only [Act.put, List.setIfInBounds_toArray, List.set_cons_zero, List.set_cons_succ]
          refine anyU_take2 (i := 5) (v := .slice A n a) (by simp only [List.getElem?_toArray, List.getElem?_cons_succ, List.getElem?_cons_zero]; exact rfl) (by kernel_rfl) 12 (by kernel_rfl) (by kernel_rfl) (fun _ _ _ h => h) (by kernel_rfl) (by kernel_rfl) (by kernel_rfl) (by kernel_rfl) (Or.inl ⟨by rfl, fun w hSw => (by have x0 := (H0.out.ro.below hSw).c0; go_simp; try with_reducible rfl)⟩) (by with_reducible exact HD.out) ?_
          try simp only [Act.put, List.setIfInBounds_toArray, List.set_cons_zero, List.set_cons_succ]
          refine anyU_take2 (i := 6) (v := .int .i64 (p : Nat)) (by simp only [List.getElem?_toArray, List.getElem?_cons_succ, List.getElem?_cons_zero]; exact rfl) (by kernel_rfl) 12 (by kernel_rfl) (by kernel_rfl) (fun _ _ _ h => h) (by kernel_rfl) (by kernel_rfl) (by kernel_rfl) (by kernel_rfl) (Or.inl ⟨by rfl, fun w hSw => (by go_simp; try with_reducible rfl)⟩) (by with_reducible exact HD.out) ?_
          try simp only [Act.put, List.setIfInBounds_toArray, List.set_cons_zero, List.set_cons_succ]
          refine anyU_take2 (i := 7) (v := .slice A p a) (by simp only [List.getElem?_toArray, List.getElem?_cons_succ, List.getElem?_cons_zero]; exact rfl) (by kernel_rfl) 12 (by kernel_rfl) (by kernel_rfl) (fun _ _ _ h => h) (by kernel_rfl) (by kernel_rfl) (by kernel_rfl) (by kernel_rfl) (Or.inl ⟨by rfl, fun w hSw => (by go_simp; try with_reducible rfl)⟩) (by with_reducible exact HD.out) ?_
          try simp only [Act.put, List.setIfInBounds_toArray, List.set_cons_zero, List.set_cons_succ]
          refine anyU_take2 (i := 9) (v := .agg #[.int .i64 i1, .int .i64 i2]) (by simp only [List.getElem?_toArray, List.getElem?_cons_succ, List.getElem?_cons_zero]; exact rfl) (by kernel_rfl) 12 (by kernel_rfl) (by kernel_rfl) (fun _ _ _ h => h) (by kernel_rfl) (by kernel_rfl) (by kernel_rfl) (by kernel_rfl) (Or.inl ⟨by rfl, fun w hSw => (by obtain ⟨c0, c1⟩ := C0.out _ (H0.out.kept hSw); go_simp; try with_reducible rfl)⟩) (by with_reducible exact HD.out) ?_
          try simp only [Act.put, List.setIfInBounds_toArray, List.set_cons_zero, List.set_cons_succ]
          refine anyU_take2 (i := 12) (v := .pointer (some ⟨g, 0, none⟩)) (by simp only [List.getElem?_toArray, List.getElem?_cons_succ, List.getElem?_cons_zero]; exact rfl) (by kernel_rfl) 12 (by kernel_rfl) (by kernel_rfl) (fun _ _ _ h => h) (by kernel_rfl) (by kernel_rfl) (by kernel_rfl) (by kernel_rfl) (Or.inl ⟨by rfl, fun w hSw => (by go_simp; try with_reducible rfl)⟩) (by with_reducible exact HD.out) ?_
          try simp only [Act.put, List.setIfInBounds_toArray, List.set_cons_zero, List.set_cons_succ]
          refine anyU_take2 (i := 13) (v := .pointer (some ⟨g, 0, none⟩)) (by simp only [List.getElem?_toArray, List.getElem?_cons_succ, List.getElem?_cons_zero]; exact rfl) (by kernel_rfl) 12 (by kernel_rfl) (by kernel_rfl) (fun _ _ _ h => h) (by kernel_rfl) (by kernel_rfl) (by kernel_rfl) (by kernel_rfl) (Or.inl ⟨by rfl, fun w hSw => (by go_simp; try with_reducible rfl)⟩) (by with_reducible exact HD.out) ?_
          try simp only [Act.put, List.setIfInBounds_toArray, List.set_cons_zero, List.set_cons_succ]
          refine anyU_take2 (i := 14) (v := .pointer (some ⟨g, 0, none⟩)) (by simp only [List.getElem?_toArray, List.getElem?_cons_succ, List.getElem?_cons_zero]; exact rfl) (by kernel_rfl) 12 (by kernel_rfl) (by kernel_rfl) (fun _ _ _ h => h) (by kernel_rfl) (by kernel_rfl) (by kernel_rfl) (by kernel_rfl) (Or.inl ⟨by rfl, fun w hSw => (by go_simp; try with_reducible rfl)⟩) (by with_reducible exact HD.out) ?_
          try simp only [Act.put, List.setIfInBounds_toArray, List.set_cons_zero, List.set_cons_succ]
          refine anyU_take2 (i := 15) (v := .slice A n a) (by simp only [List.getElem?_toArray, List.getElem?_cons_succ, List.getElem?_cons_zero]; exact rfl) (by kernel_rfl) 12 (by kernel_rfl) (by kernel_rfl) (fun _ _ _ h => h) (by kernel_rfl) (by kernel_rfl) (by kernel_rfl) (by kernel_rfl) (Or.inl ⟨by rfl, fun w hSw => (by have x0 := (H0.out.ro.below hSw).c0; go_simp; try with_reducible rfl)⟩) (by with_reducible exact HD.out) ?_
          try simp only [Act.put, List.setIfInBounds_toArray, List.set_cons_zero, List.set_cons_succ]
          refine anyU_take2 (i := 16) (v := .int .i64 (p : Nat)) (by simp only [List.getElem?_toArray, List.getElem?_cons_succ, List.getElem?_cons_zero]; exact rfl) (by kernel_rfl) 12 (by kernel_rfl) (by kernel_rfl) (fun _ _ _ h => h) (by kernel_rfl) (by kernel_rfl) (by kernel_rfl) (by kernel_rfl) (Or.inl ⟨by rfl, fun w hSw => (by go_simp; try with_reducible rfl)⟩) (by with_reducible exact HD.out) ?_
          try simp only [Act.put, List.setIfInBounds_toArray, List.set_cons_zero, List.set_cons_succ]
          refine anyU_take2 (i := 17) (v := .slice (partV 2 A a p) (n - p) (a - p)) (by simp only [List.getElem?_toArray, List.getElem?_cons_succ, List.getElem?_cons_zero]; exact rfl) (by kernel_rfl) 12 (by kernel_rfl) (by kernel_rfl) (fun _ _ _ h => h) (by kernel_rfl) (by kernel_rfl) (by kernel_rfl) (by kernel_rfl) (Or.inl ⟨by rfl, fun w hSw => (by go_simp; try with_reducible rfl)⟩) (by with_reducible exact HD.out) ?_
          try simp only [Act.put, List.setIfInBounds_toArray, List.set_cons_zero, List.set_cons_succ]
          clear hpv
          refine anyU_two (i := 1) (j := 10) (by kernel_rfl) (by simp only [List.getElem?_toArray, List.getElem?_cons_succ, List.getElem?_cons_zero]; exact rfl) (by simp only [List.getElem?_toArray, List.getElem?_cons_succ, List.getElem?_cons_zero]; exact rfl) (fun K hK => ?_) (fun K hK => ?_)
          · skip
            refine step_lit0 (lit0_inst _) ?_
            have HV := hide (rw_lit0 w5.heap.size 28 2 wd HD.out.size)
            have HD := hide (kept_alloc HD.out (.cells #[] 28))
            refine hK.out _ _ (fun _ _ => HD.out) ?_
            clear hK K
            try simp only [Act.put, List.setIfInBounds_toArray, List.set_cons_zero, List.set_cons_succ]
            generalize wd.alloc (.cells #[] 28) = wv1 at HV HD ⊢
            generalize wd.heap.size = gb1 at HV ⊢
            refine anyU_two (i := 8) (j := 10) (by kernel_rfl) (by simp only [List.getElem?_toArray, List.getElem?_cons_succ, List.getElem?_cons_zero]; exact rfl) (by simp only [List.getElem?_toArray, List.getElem?_cons_succ, List.getElem?_cons_zero]; exact rfl) (fun K hK => ?_) (fun K hK => ?_)
            · skip
              refine step_append_rw elm_inst (by decide) rfl HV.out rfl (fun x hx => iV_all k x (List.mem_of_mem_take hx)) (HLT.out) hA0 ((HEI.out _ HD.out).take p) (by simp only [List.length_nil]; omega) HD.out.size ?_
              intro v1 wv2 hr hg
              have HD := hide (below_grow HD.out HV.out hg)
              have HV := hide hr
              clear hr hg
              rw [List.nil_append] at HV
              refine hK.out _ _ (fun _ _ => HD.out) ?_
              clear hK K
              try simp only [Act.put, List.setIfInBounds_toArray, List.set_cons_zero, List.set_cons_succ]
              refine anyU_one (i := 10) (by kernel_rfl) (by simp only [List.getElem?_toArray, List.getElem?_cons_succ, List.getElem?_cons_zero]; exact rfl) (fun K hK => ?_)
              refine step_lit1 rfl (lit_inst i1 i2 _) ?_
              have HZ := hide (Row.new wv2 28 [Value.int .i64 i1, Value.int .i64 i2].toArray)
              have HV := hide (HV.out.alloc (.cells [Value.int .i64 i1, Value.int .i64 i2].toArray 28))
              have HD := hide (kept_alloc HD.out (.cells [Value.int .i64 i1, Value.int .i64 i2].toArray 28))
              refine hK.out _ _ (fun _ _ => HD.out) ?_
              clear hK K
              try simp only [Act.put, List.setIfInBounds_toArray, List.set_cons_zero, List.set_cons_succ]
              generalize wv2.alloc (.cells [Value.int .i64 i1, Value.int .i64 i2].toArray 28) = wv3 at HV HZ HD ⊢
              generalize wv2.heap.size = gz3 at HZ ⊢
              refine anyU_one (i := 11) (by kernel_rfl) (by simp only [List.getElem?_toArray, List.getElem?_cons_succ, List.getElem?_cons_zero]; exact rfl) (fun K hK => ?_)
              refine step_append_rw elm_inst (by decide) rfl HV.out rfl (fun x hx => by rw [List.mem_singleton.1 hx]; exact ⟨rfl, (fun u hu => by simp at hu; rcases hu with rfl | rfl <;> rfl)⟩) rfl (fun h => by cases h) (els_lit HZ.out rfl (fun u hu => by simp at hu; rcases hu with rfl | rfl <;> rfl)) (by rw [HLT.out]; omega) HD.out.size ?_
              intro v2 wv4 hr hg
              have HD := hide (below_grow HD.out HV.out hg)
              have HV := hide hr
              clear hr hg
              refine hK.out _ _ (fun _ _ => HD.out) ?_
              clear hK K
              try simp only [Act.put, List.setIfInBounds_toArray, List.set_cons_zero, List.set_cons_succ]
              refine anyU_one (i := 18) (by kernel_rfl) (by simp only [List.getElem?_toArray, List.getElem?_cons_succ, List.getElem?_cons_zero]; exact rfl) (fun K hK => ?_)
              refine step_append_rw elm_inst (by decide) rfl HV.out rfl (fun x hx => iV_all k x (List.mem_of_mem_drop hx)) HLD.out (fun h => partV_none hA0 h) ((HEI.out _ HD.out).rest HLC.out p) (by rw [List.length_append, HLT.out]; simp only [List.length_cons, List.length_nil]; omega) HD.out.size ?_
              intro v3 wv5 hr hg
              have HD := hide (below_grow HD.out HV.out hg)
              have HV := hide hr
              clear hr hg
              refine hK.out _ _ (fun _ _ => HD.out) ?_
              clear hK K
              try simp only [Act.put, List.setIfInBounds_toArray, List.set_cons_zero, List.set_cons_succ]
              have HV := hide (show Rw w5.heap.size 28 2 wv5 v3 (iV (k.take p ++ ([⟨(i1, i2), c⟩] ++ k.drop p))) from by rw [← iV_mid]; exact HV.out)
              obtain ⟨A3, a3, hy, -⟩ := els_own_form HV.out
              generalize (iV (k.take p ++ ([⟨(i1, i2), c⟩] ++ k.drop p))).length = m3 at hy
              subst hy
              have x0 := (H0.out.ro.below HD.out).c0
              have f0 := (H0.out.ro.below HD.out).row.free 0
              refine anyU_take2 (i := 19) (v := .pointer (some ⟨g, 0, none⟩)) (by simp only [List.getElem?_toArray, List.getElem?_cons_succ, List.getElem?_cons_zero]; exact rfl) (by kernel_rfl) 12 (by kernel_rfl) (by kernel_rfl) (fun _ _ _ h => h) (by kernel_rfl) (by kernel_rfl) (by kernel_rfl) (by kernel_rfl) (Or.inl ⟨by rfl, fun w hSw => (by go_simp; try with_reducible rfl)⟩) (by with_reducible exact HD.out) ?_
              try simp only [Act.put, List.setIfInBounds_toArray, List.set_cons_zero, List.set_cons_succ]
              refine anyU_take2 (i := 20) (v := .pointer (some ⟨g, 0, none⟩)) (by simp only [List.getElem?_toArray, List.getElem?_cons_succ, List.getElem?_cons_zero]; exact rfl) (by kernel_rfl) 12 (by kernel_rfl) (by kernel_rfl) (fun _ _ _ h => h) (by kernel_rfl) (by kernel_rfl) (by kernel_rfl) (by kernel_rfl) (Or.inl ⟨by rfl, fun w hSw => (by go_simp; try with_reducible rfl)⟩) (by with_reducible exact HD.out) ?_
              try simp only [Act.put, List.setIfInBounds_toArray, List.set_cons_zero, List.set_cons_succ]
              refine anyU_one (i := 21) (by kernel_rfl) (by simp only [List.getElem?_toArray, List.getElem?_cons_succ, List.getElem?_cons_zero]; exact rfl) (fun K hK => ?_)
              try go_simp
              refine hK.out _ _ (fun e _ => absurd rfl e) ?_
              clear hK K
              try simp only [Act.put]
              refine anyU_done (by kernel_rfl) ?_
              refine NoPanic.normal ?_
              try simp only [Act.put]
              clear x0 f0
              have SY := hide (Sy.start H0.out HD.out HV.out hgw)
              generalize wv5.setCell ⟨g, 0, none⟩ (.slice A3 m3 a3) = wt at SY ⊢
              have HBW := hide (show base ≤ w5.heap.size ∧ base ≤ wt.heap.size from ⟨Nat.le_trans hb H0.out.low.size, Nat.le_trans hb SY.out.kq.size⟩)
              clear HV HD
              go_upto_region 11 with (fail)
              have HEC := hide (fun w' (hb : Below wt.heap.size wt w') => (show Els 21 w' B (cV k) from by
                have hr := (SY.out.below hb).rc
                unfold Rw at hr
                rw [cV_len, HNN.out] at hr
                exact (els_own hr (cV_all L8.out) (by omega)).1))
              have HLT := HLT2
              have HLD := HLD2
              have HLC := HLC2
              refine wp_region_noPanic ?_
              refine wp_region_U 21 (fun w' : World => Below wt.heap.size wt w') (by kernel_rfl) ?_
              have HD := hide (show Below wt.heap.size wt wt.drew from kept_drewN (kept_refl _) 1)
              generalize wt.drew = wd at HD ⊢
              have hpv : (if b = p then B else Option.map (fun x => x.add (p * 21)) B) = partV 21 B b p := rfl
              refine anyU_take2 (i := 0) (v := .pointer (some ⟨g, 0, none⟩)) (by simp only [List.getElem?_toArray, List.getElem?_cons_zero]; exact rfl) (by kernel_rfl) 12 (by kernel_rfl) (by kernel_rfl) (fun _ _ _ h => h) (by kernel_rfl) (by kernel_rfl) (by kernel_rfl) (by kernel_rfl) (Or.inl ⟨by rfl, fun w hSw => (by go_simp; try with_reducible rfl)⟩) (by with_reducible exact HD.out) ?_
              try simp only [Act.put, List.setIfInBounds_toArray, List.set_cons_zero, List.set_cons_succ]
              refine anyU_take2 (i := 2) (v := .pointer (some ⟨g, 0, none⟩)) (by simp only [List.getElem?_toArray, List.getElem?_cons_succ, List.getElem?_cons_zero]; exact rfl) (by kernel_rfl) 12 (by kernel_rfl) (by kernel_rfl) (fun _ _ _ h => h) (by kernel_rfl) (by kernel_rfl) (by kernel_rfl) (by kernel_rfl) (Or.inl ⟨by rfl, fun w hSw => (by go_simp; try with_reducible rfl)⟩) (by with_reducible exact HD.out) ?_
              try simp only [Act.put, List.setIfInBounds_toArray, List.set_cons_zero, List.set_cons_succ]
              refine anyU_take2 (i := 3) (v := .pointer (some ⟨g, 0, none⟩)) (by simp only [List.getElem?_toArray, List.getElem?_cons_succ, List.getElem?_cons_zero]; exact rfl) (by kernel_rfl) 12 (by kernel_rfl) (by kernel_rfl) (fun _ _ _ h => h) (by kernel_rfl) (by kernel_rfl) (by kernel_rfl) (by kernel_rfl) (Or.inl ⟨by rfl, fun w hSw => (by go_simp; try with_reducible rfl)⟩) (by with_reducible exact HD.out) ?_
              try simp only [Act.put, List.setIfInBounds_toArray, List.set_cons_zero, List.set_cons_succ]
              refine anyU_take2 (i := 4) (v := .pointer (some ⟨g, 1, none⟩)) (by simp only [List.getElem?_toArray, List.getElem?_cons_succ, List.getElem?_cons_zero]; exact rfl) (by kernel_rfl) 12 (by kernel_rfl) (by kernel_rfl) (fun _ _ _ h => h) (by kernel_rfl) (by kernel_rfl) (by kernel_rfl) (by kernel_rfl) (Or.inl ⟨by rfl, fun w hSw => (by go_simp; try with_reducible rfl)⟩) (by with_reducible exact HD.out) ?_
              try simp only [Act.put, List.setIfInBounds_toArray, List.set_cons_zero, List.set_cons_succ]
              refine anyU_take2 (i := 5) (v := .slice B n b) (by simp only [List.getElem?_toArray, List.getElem?_cons_succ, List.getElem?_cons_zero]; exact rfl) (by kernel_rfl) 12 (by kernel_rfl) (by kernel_rfl) (fun _ _ _ h => h) (by kernel_rfl) (by kernel_rfl) (by kernel_rfl) (by kernel_rfl) (Or.inl ⟨by rfl, fun w hSw => (by have x0 := (SY.out.below hSw).row.cell 1; change w.cell? ⟨g, 1, none⟩ = some (.slice B n b) at x0; go_simp; try with_reducible rfl)⟩) (by with_reducible exact HD.out) ?_
              try simp only [Act.put, List.setIfInBounds_toArray, List.set_cons_zero, List.set_cons_succ]
              refine anyU_take2 (i := 6) (v := .int .i64 (p : Nat)) (by simp only [List.getElem?_toArray, List.getElem?_cons_succ, List.getElem?_cons_zero]; exact rfl) (by kernel_rfl) 12 (by kernel_rfl) (by kernel_rfl) (fun _ _ _ h => h) (by kernel_rfl) (by kernel_rfl) (by kernel_rfl) (by kernel_rfl) (Or.inl ⟨by rfl, fun w hSw => (by go_simp; try with_reducible rfl)⟩) (by with_reducible exact HD.out) ?_
              try simp only [Act.put, List.setIfInBounds_toArray, List.set_cons_zero, List.set_cons_succ]
              refine anyU_take2 (i := 7) (v := .slice B p b) (by simp only [List.getElem?_toArray, List.getElem?_cons_succ, List.getElem?_cons_zero]; exact rfl) (by kernel_rfl) 12 (by kernel_rfl) (by kernel_rfl) (fun _ _ _ h => h) (by kernel_rfl) (by kernel_rfl) (by kernel_rfl) (by kernel_rfl) (Or.inl ⟨by rfl, fun w hSw => (by go_simp; try with_reducible rfl)⟩) (by with_reducible exact HD.out) ?_
              try simp only [Act.put, List.setIfInBounds_toArray, List.set_cons_zero, List.set_cons_succ]
              refine anyU_take2 (i := 9) (v := .agg (clC c)) (by simp only [List.getElem?_toArray, List.getElem?_cons_succ, List.getElem?_cons_zero]; exact rfl) (by kernel_rfl) 12 (by kernel_rfl) (by kernel_rfl) (fun _ _ _ h => h) (by kernel_rfl) (by kernel_rfl) (by kernel_rfl) (by kernel_rfl) (Or.inl ⟨by rfl, fun w hSw => exec_load_gp rfl rfl (SY.out.below hSw).bc.all ce_under rfl (by rw [Cl.len h8]; exact ce_info)⟩) (by with_reducible exact HD.out) ?_
              try simp only [Act.put, List.setIfInBounds_toArray, List.set_cons_zero, List.set_cons_succ]
              refine anyU_take2 (i := 12) (v := .pointer (some ⟨g, 0, none⟩)) (by simp only [List.getElem?_toArray, List.getElem?_cons_succ, List.getElem?_cons_zero]; exact rfl) (by kernel_rfl) 12 (by kernel_rfl) (by kernel_rfl) (fun _ _ _ h => h) (by kernel_rfl) (by kernel_rfl) (by kernel_rfl) (by kernel_rfl) (Or.inl ⟨by rfl, fun w hSw => (by go_simp; try with_reducible rfl)⟩) (by with_reducible exact HD.out) ?_
              try simp only [Act.put, List.setIfInBounds_toArray, List.set_cons_zero, List.set_cons_succ]
              refine anyU_take2 (i := 13) (v := .pointer (some ⟨g, 0, none⟩)) (by simp only [List.getElem?_toArray, List.getElem?_cons_succ, List.getElem?_cons_zero]; exact rfl) (by kernel_rfl) 12 (by kernel_rfl) (by kernel_rfl) (fun _ _ _ h => h) (by kernel_rfl) (by kernel_rfl) (by kernel_rfl) (by kernel_rfl) (Or.inl ⟨by rfl, fun w hSw => (by go_simp; try with_reducible rfl)⟩) (by with_reducible exact HD.out) ?_
              try simp only [Act.put, List.setIfInBounds_toArray, List.set_cons_zero, List.set_cons_succ]
              refine anyU_take2 (i := 14) (v := .pointer (some ⟨g, 1, none⟩)) (by simp only [List.getElem?_toArray, List.getElem?_cons_succ, List.getElem?_cons_zero]; exact rfl) (by kernel_rfl) 12 (by kernel_rfl) (by kernel_rfl) (fun _ _ _ h => h) (by kernel_rfl) (by kernel_rfl) (by kernel_rfl) (by kernel_rfl) (Or.inl ⟨by rfl, fun w hSw => (by go_simp; try with_reducible rfl)⟩) (by with_reducible exact HD.out) ?_
              try simp only [Act.put, List.setIfInBounds_toArray, List.set_cons_zero, List.set_cons_succ]
              refine anyU_take2 (i := 15) (v := .slice B n b) (by simp only [List.getElem?_toArray, List.getElem?_cons_succ, List.getElem?_cons_zero]; exact rfl) (by kernel_rfl) 12 (by kernel_rfl) (by kernel_rfl) (fun _ _ _ h => h) (by kernel_rfl) (by kernel_rfl) (by kernel_rfl) (by kernel_rfl) (Or.inl ⟨by rfl, fun w hSw => (by have x0 := (SY.out.below hSw).row.cell 1; change w.cell? ⟨g, 1, none⟩ = some (.slice B n b) at x0; go_simp; try with_reducible rfl)⟩) (by with_reducible exact HD.out) ?_
              try simp only [Act.put, List.setIfInBounds_toArray, List.set_cons_zero, List.set_cons_succ]
              refine anyU_take2 (i := 16) (v := .int .i64 (p : Nat)) (by simp only [List.getElem?_toArray, List.getElem?_cons_succ, List.getElem?_cons_zero]; exact rfl) (by kernel_rfl) 12 (by kernel_rfl) (by kernel_rfl) (fun _ _ _ h => h) (by kernel_rfl) (by kernel_rfl) (by kernel_rfl) (by kernel_rfl) (Or.inl ⟨by rfl, fun w hSw => (by go_simp; try with_reducible rfl)⟩) (by with_reducible exact HD.out) ?_
              try simp only [Act.put, List.setIfInBounds_toArray, List.set_cons_zero, List.set_cons_succ]
              refine anyU_take2 (i := 17) (v := .slice (partV 21 B b p) (n - p) (b - p)) (by simp only [List.getElem?_toArray, List.getElem?_cons_succ, List.getElem?_cons_zero]; exact rfl) (by kernel_rfl) 12 (by kernel_rfl) (by kernel_rfl) (fun _ _ _ h => h) (by kernel_rfl) (by kernel_rfl) (by kernel_rfl) (by kernel_rfl) (Or.inl ⟨by rfl, fun w hSw => (by go_simp; try with_reducible rfl)⟩) (by with_reducible exact HD.out) ?_
              try simp only [Act.put, List.setIfInBounds_toArray, List.set_cons_zero, List.set_cons_succ]
              clear hpv
              refine anyU_two (i := 1) (j := 10) (by kernel_rfl) (by simp only [List.getElem?_toArray, List.getElem?_cons_succ, List.getElem?_cons_zero]; exact rfl) (by simp only [List.getElem?_toArray, List.getElem?_cons_succ, List.getElem?_cons_zero]; exact rfl) (fun K hK => ?_) (fun K hK => ?_)
              · skip
                refine step_lit0 (lit0_cell _) ?_
                have HV := hide (rw_lit0 wt.heap.size 37 21 wd HD.out.size)
                have HD := hide (kept_alloc HD.out (.cells #[] 37))
                refine hK.out _ _ (fun _ _ => HD.out) ?_
                clear hK K
                try simp only [Act.put, List.setIfInBounds_toArray, List.set_cons_zero, List.set_cons_succ]
                generalize wd.alloc (.cells #[] 37) = wv1 at HV HD ⊢
                generalize wd.heap.size = gb1 at HV ⊢
                refine anyU_two (i := 8) (j := 10) (by kernel_rfl) (by simp only [List.getElem?_toArray, List.getElem?_cons_succ, List.getElem?_cons_zero]; exact rfl) (by simp only [List.getElem?_toArray, List.getElem?_cons_succ, List.getElem?_cons_zero]; exact rfl) (fun K hK => ?_) (fun K hK => ?_)
                · skip
                  refine step_append_rw elm_cell (by decide) rfl HV.out rfl (fun x hx => (cV_all L8.out) x (List.mem_of_mem_take hx)) (HLT.out) hB0 ((HEC.out _ HD.out).take p) (by simp only [List.length_nil]; omega) HD.out.size ?_
                  intro v1 wv2 hr hg
                  have HD := hide (below_grow HD.out HV.out hg)
                  have HV := hide hr
                  clear hr hg
                  rw [List.nil_append] at HV
                  refine hK.out _ _ (fun _ _ => HD.out) ?_
                  clear hK K
                  try simp only [Act.put, List.setIfInBounds_toArray, List.set_cons_zero, List.set_cons_succ]
                  refine anyU_one (i := 10) (by kernel_rfl) (by simp only [List.getElem?_toArray, List.getElem?_cons_succ, List.getElem?_cons_zero]; exact rfl) (fun K hK => ?_)
                  refine step_lit1 rfl (lit_cell_l h8 _) ?_
                  have HZ := hide (Row.new wv2 37 c.l.toArray)
                  have HV := hide (HV.out.alloc (.cells c.l.toArray 37))
                  have HD := hide (kept_alloc HD.out (.cells c.l.toArray 37))
                  refine hK.out _ _ (fun _ _ => HD.out) ?_
                  clear hK K
                  try simp only [Act.put, List.setIfInBounds_toArray, List.set_cons_zero, List.set_cons_succ]
                  generalize wv2.alloc (.cells c.l.toArray 37) = wv3 at HV HZ HD ⊢
                  generalize wv2.heap.size = gz3 at HZ ⊢
                  refine anyU_one (i := 11) (by kernel_rfl) (by simp only [List.getElem?_toArray, List.getElem?_cons_succ, List.getElem?_cons_zero]; exact rfl) (fun K hK => ?_)
                  refine step_append_rw elm_cell (by decide) rfl HV.out rfl (fun x hx => by rw [List.mem_singleton.1 hx]; exact ⟨(Cl.len h8), (one_cl c)⟩) rfl (fun h => by cases h) (els_lit HZ.out (Cl.len h8) (one_cl c)) (by rw [HLT.out]; omega) HD.out.size ?_
                  intro v2 wv4 hr hg
                  have HD := hide (below_grow HD.out HV.out hg)
                  have HV := hide hr
                  clear hr hg
                  refine hK.out _ _ (fun _ _ => HD.out) ?_
                  clear hK K
                  try simp only [Act.put, List.setIfInBounds_toArray, List.set_cons_zero, List.set_cons_succ]
                  refine anyU_one (i := 18) (by kernel_rfl) (by simp only [List.getElem?_toArray, List.getElem?_cons_succ, List.getElem?_cons_zero]; exact rfl) (fun K hK => ?_)
                  refine step_append_rw elm_cell (by decide) rfl HV.out rfl (fun x hx => (cV_all L8.out) x (List.mem_of_mem_drop hx)) HLD.out (fun h => partV_none hB0 h) ((HEC.out _ HD.out).rest HLC.out p) (by rw [List.length_append, HLT.out]; simp only [List.length_cons, List.length_nil]; omega) HD.out.size ?_
                  intro v3 wv5 hr hg
                  have HD := hide (below_grow HD.out HV.out hg)
                  have HV := hide hr
                  clear hr hg
                  refine hK.out _ _ (fun _ _ => HD.out) ?_
                  clear hK K
                  try simp only [Act.put, List.setIfInBounds_toArray, List.set_cons_zero, List.set_cons_succ]
                  have HV := hide (show Rw wt.heap.size 37 21 wv5 v3 (cV (k.take p ++ ([⟨(i1, i2), c⟩] ++ k.drop p))) from by rw [← cV_mid]; exact HV.out)
                  obtain ⟨B3, b4, hy, -⟩ := els_own_form HV.out
                  generalize (cV (k.take p ++ ([⟨(i1, i2), c⟩] ++ k.drop p))).length = m4 at hy
                  subst hy
                  have SY := hide (SY.out.below HD.out)
                  have x0 := SY.out.row.cell 1
                  have f0 := SY.out.row.free 1
                  change wv5.cell? ⟨g, 1, none⟩ = some (.slice B n b) at x0
                  refine anyU_take2 (i := 19) (v := .pointer (some ⟨g, 0, none⟩)) (by simp only [List.getElem?_toArray, List.getElem?_cons_succ, List.getElem?_cons_zero]; exact rfl) (by kernel_rfl) 12 (by kernel_rfl) (by kernel_rfl) (fun _ _ _ h => h) (by kernel_rfl) (by kernel_rfl) (by kernel_rfl) (by kernel_rfl) (Or.inl ⟨by rfl, fun w hSw => (by go_simp; try with_reducible rfl)⟩) (by with_reducible exact HD.out) ?_
                  try simp only [Act.put, List.setIfInBounds_toArray, List.set_cons_zero, List.set_cons_succ]
                  refine anyU_take2 (i := 20) (v := .pointer (some ⟨g, 1, none⟩)) (by simp only [List.getElem?_toArray, List.getElem?_cons_succ, List.getElem?_cons_zero]; exact rfl) (by kernel_rfl) 12 (by kernel_rfl) (by kernel_rfl) (fun _ _ _ h => h) (by kernel_rfl) (by kernel_rfl) (by kernel_rfl) (by kernel_rfl) (Or.inl ⟨by rfl, fun w hSw => (by go_simp; try with_reducible rfl)⟩) (by with_reducible exact HD.out) ?_
                  try simp only [Act.put, List.setIfInBounds_toArray, List.set_cons_zero, List.set_cons_succ]
                  refine anyU_one (i := 21) (by kernel_rfl) (by simp only [List.getElem?_toArray, List.getElem?_cons_succ, List.getElem?_cons_zero]; exact rfl) (fun K hK => ?_)
                  try go_simp
                  refine hK.out _ _ (fun e _ => absurd rfl e) ?_
                  clear hK K
                  try simp only [Act.put]
                  refine anyU_done (by kernel_rfl) ?_
                  refine NoPanic.normal ?_
                  try simp only [Act.put]
                  clear x0 f0
                  have HZZ := hide (SY.out.fin HV.out HBW.out D7.out L8.out h8)
                  go_wp2
                  go_ret
                  exact ⟨by rw [HM.out]; rfl, ⟨_, _, by rw [set_yes HM.out]; show Ro base _ g _ _ (putL k (i1, i2) c) d; rw [HP.out]; exact HZZ.out.1⟩, HZZ.out.2.mono fun b h => .inl h⟩
                · skip
                  refine step_lit1 rfl (lit_cell_l h8 _) ?_
                  have HZ := hide (Row.new wv1 37 c.l.toArray)
                  have HNE := hide (show some wv1.heap.size ≠ some gb1 from fun e => by injection e with e; have := (HV.out.lt gb1 rfl).2; omega)
                  have HV := hide (HV.out.alloc (.cells c.l.toArray 37))
                  have HD := hide (kept_alloc HD.out (.cells c.l.toArray 37))
                  refine hK.out _ _ (fun _ _ => HD.out) ?_
                  clear hK K
                  try simp only [Act.put, List.setIfInBounds_toArray, List.set_cons_zero, List.set_cons_succ]
                  generalize wv1.alloc (.cells c.l.toArray 37) = wv6 at HV HZ HD ⊢
                  generalize wv1.heap.size = gz6 at HZ HNE ⊢
                  refine anyU_one (i := 8) (by kernel_rfl) (by simp only [List.getElem?_toArray, List.getElem?_cons_succ, List.getElem?_cons_zero]; exact rfl) (fun K hK => ?_)
                  refine step_append_rw elm_cell (by decide) rfl HV.out rfl (fun x hx => (cV_all L8.out) x (List.mem_of_mem_take hx)) (HLT.out) hB0 ((HEC.out _ HD.out).take p) (by simp only [List.length_nil]; omega) HD.out.size ?_
                  intro v1 wv7 hr hg
                  have HZ := hide (HZ.out.grown hg HNE.out)
                  have HD := hide (below_grow HD.out HV.out hg)
                  have HV := hide hr
                  clear hr hg
                  rw [List.nil_append] at HV
                  refine hK.out _ _ (fun _ _ => HD.out) ?_
                  clear hK K
                  try simp only [Act.put, List.setIfInBounds_toArray, List.set_cons_zero, List.set_cons_succ]
                  refine anyU_one (i := 11) (by kernel_rfl) (by simp only [List.getElem?_toArray, List.getElem?_cons_succ, List.getElem?_cons_zero]; exact rfl) (fun K hK => ?_)
                  refine step_append_rw elm_cell (by decide) rfl HV.out rfl (fun x hx => by rw [List.mem_singleton.1 hx]; exact ⟨(Cl.len h8), (one_cl c)⟩) rfl (fun h => by cases h) (els_lit HZ.out (Cl.len h8) (one_cl c)) (by rw [HLT.out]; omega) HD.out.size ?_
                  intro v2 wv8 hr hg
                  have HD := hide (below_grow HD.out HV.out hg)
                  have HV := hide hr
                  clear hr hg
                  refine hK.out _ _ (fun _ _ => HD.out) ?_
                  clear hK K
                  try simp only [Act.put, List.setIfInBounds_toArray, List.set_cons_zero, List.set_cons_succ]
                  refine anyU_one (i := 18) (by kernel_rfl) (by simp only [List.getElem?_toArray, List.getElem?_cons_succ, List.getElem?_cons_zero]; exact rfl) (fun K hK => ?_)
                  refine step_append_rw elm_cell (by decide) rfl HV.out rfl (fun x hx => (cV_all L8.out) x (List.mem_of_mem_drop hx)) HLD.out (fun h => partV_none hB0 h) ((HEC.out _ HD.out).rest HLC.out p) (by rw [List.length_append, HLT.out]; simp only [List.length_cons, List.length_nil]; omega) HD.out.size ?_
                  intro v3 wv9 hr hg
                  have HD := hide (below_grow HD.out HV.out hg)
                  have HV := hide hr
                  clear hr hg
                  refine hK.out _ _ (fun _ _ => HD.out) ?_
                  clear hK K
                  try simp only [Act.put, List.setIfInBounds_toArray, List.set_cons_zero, List.set_cons_succ]
                  have HV := hide (show Rw wt.heap.size 37 21 wv9 v3 (cV (k.take p ++ ([⟨(i1, i2), c⟩] ++ k.drop p))) from by rw [← cV_mid]; exact HV.out)
                  obtain ⟨B3, b4, hy, -⟩ := els_own_form HV.out
                  generalize (cV (k.take p ++ ([⟨(i1, i2), c⟩] ++ k.drop p))).length = m4 at hy
                  subst hy
                  have SY := hide (SY.out.below HD.out)
                  have x0 := SY.out.row.cell 1
                  have f0 := SY.out.row.free 1
                  change wv9.cell? ⟨g, 1, none⟩ = some (.slice B n b) at x0
                  refine anyU_take2 (i := 19) (v := .pointer (some ⟨g, 0, none⟩)) (by simp only [List.getElem?_toArray, List.getElem?_cons_succ, List.getElem?_cons_zero]; exact rfl) (by kernel_rfl) 12 (by kernel_rfl) (by kernel_rfl) (fun _ _ _ h => h) (by kernel_rfl) (by kernel_rfl) (by kernel_rfl) (by kernel_rfl) (Or.inl ⟨by rfl, fun w hSw => (by go_simp; try with_reducible rfl)⟩) (by with_reducible exact HD.out) ?_
                  try simp only [Act.put, List.setIfInBounds_toArray, List.set_cons_zero, List.set_cons_succ]
                  refine anyU_take2 (i := 20) (v := .pointer (some ⟨g, 1, none⟩)) (by simp only [List.getElem?_toArray, List.getElem?_cons_succ, List.getElem?_cons_zero]; exact rfl) (by kernel_rfl) 12 (by kernel_rfl) (by kernel_rfl) (fun _ _ _ h => h) (by kernel_rfl) (by kernel_rfl) (by kernel_rfl) (by kernel_rfl) (Or.inl ⟨by rfl, fun w hSw => (by go_simp; try with_reducible rfl)⟩) (by with_reducible exact HD.out) ?_
                  try simp only [Act.put, List.setIfInBounds_toArray, List.set_cons_zero, List.set_cons_succ]
                  refine anyU_one (i := 21) (by kernel_rfl) (by simp only [List.getElem?_toArray, List.getElem?_cons_succ, List.getElem?_cons_zero]; exact rfl) (fun K hK => ?_)
                  try go_simp
                  refine hK.out _ _ (fun e _ => absurd rfl e) ?_
                  clear hK K
                  try simp only [Act.put]
                  refine anyU_done (by kernel_rfl) ?_
                  refine NoPanic.normal ?_
                  try simp only [Act.put]
                  clear x0 f0
                  have HZZ := hide (SY.out.fin HV.out HBW.out D7.out L8.out h8)
                  go_wp2
                  go_ret
                  exact ⟨by rw [HM.out]; rfl, ⟨_, _, by rw [set_yes HM.out]; show Ro base _ g _ _ (putL k (i1, i2) c) d; rw [HP.out]; exact HZZ.out.1⟩, HZZ.out.2.mono fun b h => .inl h⟩
              · skip
                refine step_lit1 rfl (lit_cell_l h8 _) ?_
                have HZ := hide (Row.new wd 37 c.l.toArray)
                have HD := hide (kept_alloc HD.out (.cells c.l.toArray 37))
                refine hK.out _ _ (fun _ _ => HD.out) ?_
                clear hK K
                try simp only [Act.put, List.setIfInBounds_toArray, List.set_cons_zero, List.set_cons_succ]
                generalize wd.alloc (.cells c.l.toArray 37) = wv10 at HZ HD ⊢
                generalize wd.heap.size = gz10 at HZ ⊢
                refine anyU_one (i := 1) (by kernel_rfl) (by simp only [List.getElem?_toArray, List.getElem?_cons_succ, List.getElem?_cons_zero]; exact rfl) (fun K hK => ?_)
                refine step_lit0 (lit0_cell _) ?_
                have HV := hide (rw_lit0 wt.heap.size 37 21 wv10 HD.out.size)
                have HNE := hide (show some gz10 ≠ some wv10.heap.size from fun e => by injection e with e; have := HZ.out.lt; omega)
                have HZ := hide (HZ.out.alloc (.cells #[] 37))
                have HD := hide (kept_alloc HD.out (.cells #[] 37))
                refine hK.out _ _ (fun _ _ => HD.out) ?_
                clear hK K
                try simp only [Act.put, List.setIfInBounds_toArray, List.set_cons_zero, List.set_cons_succ]
                generalize wv10.alloc (.cells #[] 37) = wv11 at HV HD HZ ⊢
                generalize wv10.heap.size = gb11 at HV HNE ⊢
                refine anyU_one (i := 8) (by kernel_rfl) (by simp only [List.getElem?_toArray, List.getElem?_cons_succ, List.getElem?_cons_zero]; exact rfl) (fun K hK => ?_)
                refine step_append_rw elm_cell (by decide) rfl HV.out rfl (fun x hx => (cV_all L8.out) x (List.mem_of_mem_take hx)) (HLT.out) hB0 ((HEC.out _ HD.out).take p) (by simp only [List.length_nil]; omega) HD.out.size ?_
                intro v1 wv12 hr hg
                have HZ := hide (HZ.out.grown hg HNE.out)
                have HD := hide (below_grow HD.out HV.out hg)
                have HV := hide hr
                clear hr hg
                rw [List.nil_append] at HV
                refine hK.out _ _ (fun _ _ => HD.out) ?_
                clear hK K
                try simp only [Act.put, List.setIfInBounds_toArray, List.set_cons_zero, List.set_cons_succ]
                refine anyU_one (i := 11) (by kernel_rfl) (by simp only [List.getElem?_toArray, List.getElem?_cons_succ, List.getElem?_cons_zero]; exact rfl) (fun K hK => ?_)
                refine step_append_rw elm_cell (by decide) rfl HV.out rfl (fun x hx => by rw [List.mem_singleton.1 hx]; exact ⟨(Cl.len h8), (one_cl c)⟩) rfl (fun h => by cases h) (els_lit HZ.out (Cl.len h8) (one_cl c)) (by rw [HLT.out]; omega) HD.out.size ?_
                intro v2 wv13 hr hg
                have HD := hide (below_grow HD.out HV.out hg)
                have HV := hide hr
                clear hr hg
                refine hK.out _ _ (fun _ _ => HD.out) ?_
                clear hK K
                try simp only [Act.put, List.setIfInBounds_toArray, List.set_cons_zero, List.set_cons_succ]
                refine anyU_one (i := 18) (by kernel_rfl) (by simp only [List.getElem?_toArray, List.getElem?_cons_succ, List.getElem?_cons_zero]; exact rfl) (fun K hK => ?_)
                refine step_append_rw elm_cell (by decide) rfl HV.out rfl (fun x hx => (cV_all L8.out) x (List.mem_of_mem_drop hx)) HLD.out (fun h => partV_none hB0 h) ((HEC.out _ HD.out).rest HLC.out p) (by rw [List.length_append, HLT.out]; simp only [List.length_cons, List.length_nil]; omega) HD.out.size ?_
                intro v3 wv14 hr hg
                have HD := hide (below_grow HD.out HV.out hg)
                have HV := hide hr
                clear hr hg
                refine hK.out _ _ (fun _ _ => HD.out) ?_
                clear hK K
                try simp only [Act.put, List.setIfInBounds_toArray, List.set_cons_zero, List.set_cons_succ]
                have HV := hide (show Rw wt.heap.size 37 21 wv14 v3 (cV (k.take p ++ ([⟨(i1, i2), c⟩] ++ k.drop p))) from by rw [← cV_mid]; exact HV.out)
                obtain ⟨B3, b4, hy, -⟩ := els_own_form HV.out
                generalize (cV (k.take p ++ ([⟨(i1, i2), c⟩] ++ k.drop p))).length = m4 at hy
                subst hy
                have SY := hide (SY.out.below HD.out)
                have x0 := SY.out.row.cell 1
                have f0 := SY.out.row.free 1
                change wv14.cell? ⟨g, 1, none⟩ = some (.slice B n b) at x0
                refine anyU_take2 (i := 19) (v := .pointer (some ⟨g, 0, none⟩)) (by simp only [List.getElem?_toArray, List.getElem?_cons_succ, List.getElem?_cons_zero]; exact rfl) (by kernel_rfl) 12 (by kernel_rfl) (by kernel_rfl) (fun _ _ _ h => h) (by kernel_rfl) (by kernel_rfl) (by kernel_rfl) (by kernel_rfl) (Or.inl ⟨by rfl, fun w hSw => (by go_simp; try with_reducible rfl)⟩) (by with_reducible exact HD.out) ?_
                try simp only [Act.put, List.setIfInBounds_toArray, List.set_cons_zero, List.set_cons_succ]
                refine anyU_take2 (i := 20) (v := .pointer (some ⟨g, 1, none⟩)) (by simp only [List.getElem?_toArray, List.getElem?_cons_succ, List.getElem?_cons_zero]; exact rfl) (by kernel_rfl) 12 (by kernel_rfl) (by kernel_rfl) (fun _ _ _ h => h) (by kernel_rfl) (by kernel_rfl) (by kernel_rfl) (by kernel_rfl) (Or.inl ⟨by rfl, fun w hSw => (by go_simp; try with_reducible rfl)⟩) (by with_reducible exact HD.out) ?_
                try simp only [Act.put, List.setIfInBounds_toArray, List.set_cons_zero, List.set_cons_succ]
                refine anyU_one (i := 21) (by kernel_rfl) (by simp only [List.getElem?_toArray, List.getElem?_cons_succ, List.getElem?_cons_zero]; exact rfl) (fun K hK => ?_)
                try go_simp
                refine hK.out _ _ (fun e _ => absurd rfl e) ?_
                clear hK K
                try simp only [Act.put]
                refine anyU_done (by kernel_rfl) ?_
                refine NoPanic.normal ?_
                try simp only [Act.put]
                clear x0 f0
                have HZZ := hide (SY.out.fin HV.out HBW.out D7.out L8.out h8)
                go_wp2
                go_ret
                exact ⟨by rw [HM.out]; rfl, ⟨_, _, by rw [set_yes HM.out]; show Ro base _ g _ _ (putL k (i1, i2) c) d; rw [HP.out]; exact HZZ.out.1⟩, HZZ.out.2.mono fun b h => .inl h⟩
            · skip
              refine step_lit1 rfl (lit_inst i1 i2 _) ?_
              have HZ := hide (Row.new wv1 28 [Value.int .i64 i1, Value.int .i64 i2].toArray)
              have HNE := hide (show some wv1.heap.size ≠ some gb1 from fun e => by injection e with e; have := (HV.out.lt gb1 rfl).2; omega)
              have HV := hide (HV.out.alloc (.cells [Value.int .i64 i1, Value.int .i64 i2].toArray 28))
              have HD := hide (kept_alloc HD.out (.cells [Value.int .i64 i1, Value.int .i64 i2].toArray 28))
              refine hK.out _ _ (fun _ _ => HD.out) ?_
              clear hK K
              try simp only [Act.put, List.setIfInBounds_toArray, List.set_cons_zero, List.set_cons_succ]
              generalize wv1.alloc (.cells [Value.int .i64 i1, Value.int .i64 i2].toArray 28) = wv6 at HV HZ HD ⊢
              generalize wv1.heap.size = gz6 at HZ HNE ⊢
              refine anyU_one (i := 8) (by kernel_rfl) (by simp only [List.getElem?_toArray, List.getElem?_cons_succ, List.getElem?_cons_zero]; exact rfl) (fun K hK => ?_)
              refine step_append_rw elm_inst (by decide) rfl HV.out rfl (fun x hx => iV_all k x (List.mem_of_mem_take hx)) (HLT.out) hA0 ((HEI.out _ HD.out).take p) (by simp only [List.length_nil]; omega) HD.out.size ?_
              intro v1 wv7 hr hg
              have HZ := hide (HZ.out.grown hg HNE.out)
              have HD := hide (below_grow HD.out HV.out hg)
              have HV := hide hr
              clear hr hg
              rw [List.nil_append] at HV
              refine hK.out _ _ (fun _ _ => HD.out) ?_
              clear hK K
              try simp only [Act.put, List.setIfInBounds_toArray, List.set_cons_zero, List.set_cons_succ]
              refine anyU_one (i := 11) (by kernel_rfl) (by simp only [List.getElem?_toArray, List.getElem?_cons_succ, List.getElem?_cons_zero]; exact rfl) (fun K hK => ?_)
              refine step_append_rw elm_inst (by decide) rfl HV.out rfl (fun x hx => by rw [List.mem_singleton.1 hx]; exact ⟨rfl, (fun u hu => by simp at hu; rcases hu with rfl | rfl <;> rfl)⟩) rfl (fun h => by cases h) (els_lit HZ.out rfl (fun u hu => by simp at hu; rcases hu with rfl | rfl <;> rfl)) (by rw [HLT.out]; omega) HD.out.size ?_
              intro v2 wv8 hr hg
              have HD := hide (below_grow HD.out HV.out hg)
              have HV := hide hr
              clear hr hg
              refine hK.out _ _ (fun _ _ => HD.out) ?_
              clear hK K
              try simp only [Act.put, List.setIfInBounds_toArray, List.set_cons_zero, List.set_cons_succ]
              refine anyU_one (i := 18) (by kernel_rfl) (by simp only [List.getElem?_toArray, List.getElem?_cons_succ, List.getElem?_cons_zero]; exact rfl) (fun K hK => ?_)
              refine step_append_rw elm_inst (by decide) rfl HV.out rfl (fun x hx => iV_all k x (List.mem_of_mem_drop hx)) HLD.out (fun h => partV_none hA0 h) ((HEI.out _ HD.out).rest HLC.out p) (by rw [List.length_append, HLT.out]; simp only [List.length_cons, List.length_nil]; omega) HD.out.size ?_
              intro v3 wv9 hr hg
              have HD := hide (below_grow HD.out HV.out hg)
              have HV := hide hr
              clear hr hg
              refine hK.out _ _ (fun _ _ => HD.out) ?_
              clear hK K
              try simp only [Act.put, List.setIfInBounds_toArray, List.set_cons_zero, List.set_cons_succ]
              have HV := hide (show Rw w5.heap.size 28 2 wv9 v3 (iV (k.take p ++ ([⟨(i1, i2), c⟩] ++ k.drop p))) from by rw [← iV_mid]; exact HV.out)
              obtain ⟨A3, a3, hy, -⟩ := els_own_form HV.out
              generalize (iV (k.take p ++ ([⟨(i1, i2), c⟩] ++ k.drop p))).length = m3 at hy
              subst hy
              have x0 := (H0.out.ro.below HD.out).c0
              have f0 := (H0.out.ro.below HD.out).row.free 0
              refine anyU_take2 (i := 19) (v := .pointer (some ⟨g, 0, none⟩)) (by simp only [List.getElem?_toArray, List.getElem?_cons_succ, List.getElem?_cons_zero]; exact rfl) (by kernel_rfl) 12 (by kernel_rfl) (by kernel_rfl) (fun _ _ _ h => h) (by kernel_rfl) (by kernel_rfl) (by kernel_rfl) (by kernel_rfl) (Or.inl ⟨by rfl, fun w hSw => (by go_simp; try with_reducible rfl)⟩) (by with_reducible exact HD.out) ?_
              try simp only [Act.put, List.setIfInBounds_toArray, List.set_cons_zero, List.set_cons_succ]
              refine anyU_take2 (i := 20) (v := .pointer (some ⟨g, 0, none⟩)) (by simp only [List.getElem?_toArray, List.getElem?_cons_succ, List.getElem?_cons_zero]; exact rfl) (by kernel_rfl) 12 (by kernel_rfl) (by kernel_rfl) (fun _ _ _ h => h) (by kernel_rfl) (by kernel_rfl) (by kernel_rfl) (by kernel_rfl) (Or.inl ⟨by rfl, fun w hSw => (by go_simp; try with_reducible rfl)⟩) (by with_reducible exact HD.out) ?_
              try simp only [Act.put, List.setIfInBounds_toArray, List.set_cons_zero, List.set_cons_succ]
              refine anyU_one (i := 21) (by kernel_rfl) (by simp only [List.getElem?_toArray, List.getElem?_cons_succ, List.getElem?_cons_zero]; exact rfl) (fun K hK => ?_)
              try go_simp
              refine hK.out _ _ (fun e _ => absurd rfl e) ?_
              clear hK K
              try simp only [Act.put]
              refine anyU_done (by kernel_rfl) ?_
              refine NoPanic.normal ?_
              try simp only [Act.put]
              clear x0 f0
              have SY := hide (Sy.start H0.out HD.out HV.out hgw)
              generalize wv9.setCell ⟨g, 0, none⟩ (.slice A3 m3 a3) = wt at SY ⊢
              have HBW := hide (show base ≤ w5.heap.size ∧ base ≤ wt.heap.size from ⟨Nat.le_trans hb H0.out.low.size, Nat.le_trans hb SY.out.kq.size⟩)
              clear HV HD
              go_upto_region 11 with (fail)
              have HEC := hide (fun w' (hb : Below wt.heap.size wt w') => (show Els 21 w' B (cV k) from by
                have hr := (SY.out.below hb).rc
                unfold Rw at hr
                rw [cV_len, HNN.out] at hr
                exact (els_own hr (cV_all L8.out) (by omega)).1))
              have HLT := HLT2
              have HLD := HLD2
              have HLC := HLC2
              refine wp_region_noPanic ?_
              refine wp_region_U 21 (fun w' : World => Below wt.heap.size wt w') (by kernel_rfl) ?_
              have HD := hide (show Below wt.heap.size wt wt.drew from kept_drewN (kept_refl _) 1)
              generalize wt.drew = wd at HD ⊢
              have hpv : (if b = p then B else Option.map (fun x => x.add (p * 21)) B) = partV 21 B b p := rfl
              refine anyU_take2 (i := 0) (v := .pointer (some ⟨g, 0, none⟩)) (by simp only [List.getElem?_toArray, List.getElem?_cons_zero]; exact rfl) (by kernel_rfl) 12 (by kernel_rfl) (by kernel_rfl) (fun _ _ _ h => h) (by kernel_rfl) (by kernel_rfl) (by kernel_rfl) (by kernel_rfl) (Or.inl ⟨by rfl, fun w hSw => (by go_simp; try with_reducible rfl)⟩) (by with_reducible exact HD.out) ?_
              try simp only [Act.put, List.setIfInBounds_toArray, List.set_cons_zero, List.set_cons_succ]
              refine anyU_take2 (i := 2) (v := .pointer (some ⟨g, 0, none⟩)) (by simp only [List.getElem?_toArray, List.getElem?_cons_succ, List.getElem?_cons_zero]; exact rfl) (by kernel_rfl) 12 (by kernel_rfl) (by kernel_rfl) (fun _ _ _ h => h) (by kernel_rfl) (by kernel_rfl) (by kernel_rfl) (by kernel_rfl) (Or.inl ⟨by rfl, fun w hSw => (by go_simp; try with_reducible rfl)⟩) (by with_reducible exact HD.out) ?_
              try simp only [Act.put, List.setIfInBounds_toArray, List.set_cons_zero, List.set_cons_succ]
              refine anyU_take2 (i := 3) (v := .pointer (some ⟨g, 0, none⟩)) (by simp only [List.getElem?_toArray, List.getElem?_cons_succ, List.getElem?_cons_zero]; exact rfl) (by kernel_rfl) 12 (by kernel_rfl) (by kernel_rfl) (fun _ _ _ h => h) (by kernel_rfl) (by kernel_rfl) (by kernel_rfl) (by kernel_rfl) (Or.inl ⟨by rfl, fun w hSw => (by go_simp; try with_reducible rfl)⟩) (by with_reducible exact HD.out) ?_
              try simp only [Act.put, List.setIfInBounds_toArray, List.set_cons_zero, List.set_cons_succ]
              refine anyU_take2 (i := 4) (v := .pointer (some ⟨g, 1, none⟩)) (by simp only [List.getElem?_toArray, List.getElem?_cons_succ, List.getElem?_cons_zero]; exact rfl) (by kernel_rfl) 12 (by kernel_rfl) (by kernel_rfl) (fun _ _ _ h => h) (by kernel_rfl) (by kernel_rfl) (by kernel_rfl) (by kernel_rfl) (Or.inl ⟨by rfl, fun w hSw => (by go_simp; try with_reducible rfl)⟩) (by with_reducible exact HD.out) ?_
              try simp only [Act.put, List.setIfInBounds_toArray, List.set_cons_zero, List.set_cons_succ]
              refine anyU_take2 (i := 5) (v := .slice B n b) (by simp only [List.getElem?_toArray, List.getElem?_cons_succ, List.getElem?_cons_zero]; exact rfl) (by kernel_rfl) 12 (by kernel_rfl) (by kernel_rfl) (fun _ _ _ h => h) (by kernel_rfl) (by kernel_rfl) (by kernel_rfl) (by kernel_rfl) (Or.inl ⟨by rfl, fun w hSw => (by have x0 := (SY.out.below hSw).row.cell 1; change w.cell? ⟨g, 1, none⟩ = some (.slice B n b) at x0; go_simp; try with_reducible rfl)⟩) (by with_reducible exact HD.out) ?_
              try simp only [Act.put, List.setIfInBounds_toArray, List.set_cons_zero, List.set_cons_succ]
              refine anyU_take2 (i := 6) (v := .int .i64 (p : Nat)) (by simp only [List.getElem?_toArray, List.getElem?_cons_succ, List.getElem?_cons_zero]; exact rfl) (by kernel_rfl) 12 (by kernel_rfl) (by kernel_rfl) (fun _ _ _ h => h) (by kernel_rfl) (by kernel_rfl) (by kernel_rfl) (by kernel_rfl) (Or.inl ⟨by rfl, fun w hSw => (by go_simp; try with_reducible rfl)⟩) (by with_reducible exact HD.out) ?_
              try simp only [Act.put, List.setIfInBounds_toArray, List.set_cons_zero, List.set_cons_succ]
              refine anyU_take2 (i := 7) (v := .slice B p b) (by simp only [List.getElem?_toArray, List.getElem?_cons_succ, List.getElem?_cons_zero]; exact rfl) (by kernel_rfl) 12 (by kernel_rfl) (by kernel_rfl) (fun _ _ _ h => h) (by kernel_rfl) (by kernel_rfl) (by kernel_rfl) (by kernel_rfl) (Or.inl ⟨by rfl, fun w hSw => (by go_simp; try with_reducible rfl)⟩) (by with_reducible exact HD.out) ?_
              try simp only [Act.put, List.setIfInBounds_toArray, List.set_cons_zero, List.set_cons_succ]
              refine anyU_take2 (i := 9) (v := .agg (clC c)) (by simp only [List.getElem?_toArray, List.getElem?_cons_succ, List.getElem?_cons_zero]; exact rfl) (by kernel_rfl) 12 (by kernel_rfl) (by kernel_rfl) (fun _ _ _ h => h) (by kernel_rfl) (by kernel_rfl) (by kernel_rfl) (by kernel_rfl) (Or.inl ⟨by rfl, fun w hSw => exec_load_gp rfl rfl (SY.out.below hSw).bc.all ce_under rfl (by rw [Cl.len h8]; exact ce_info)⟩) (by with_reducible exact HD.out) ?_
              try simp only [Act.put, List.setIfInBounds_toArray, List.set_cons_zero, List.set_cons_succ]
              refine anyU_take2 (i := 12) (v := .pointer (some ⟨g, 0, none⟩)) (by simp only [List.getElem?_toArray, List.getElem?_cons_succ, List.getElem?_cons_zero]; exact rfl) (by kernel_rfl) 12 (by kernel_rfl) (by kernel_rfl) (fun _ _ _ h => h) (by kernel_rfl) (by kernel_rfl) (by kernel_rfl) (by kernel_rfl) (Or.inl ⟨by rfl, fun w hSw => (by go_simp; try with_reducible rfl)⟩) (by with_reducible exact HD.out) ?_
              try simp only [Act.put, List.setIfInBounds_toArray, List.set_cons_zero, List.set_cons_succ]
              refine anyU_take2 (i := 13) (v := .pointer (some ⟨g, 0, none⟩)) (by simp only [List.getElem?_toArray, List.getElem?_cons_succ, List.getElem?_cons_zero]; exact rfl) (by kernel_rfl) 12 (by kernel_rfl) (by kernel_rfl) (fun _ _ _ h => h) (by kernel_rfl) (by kernel_rfl) (by kernel_rfl) (by kernel_rfl) (Or.inl ⟨by rfl, fun w hSw => (by go_simp; try with_reducible rfl)⟩) (by with_reducible exact HD.out) ?_
              try simp only [Act.put, List.setIfInBounds_toArray, List.set_cons_zero, List.set_cons_succ]
              refine anyU_take2 (i := 14) (v := .pointer (some ⟨g, 1, none⟩)) (by simp only [List.getElem?_toArray, List.getElem?_cons_succ, List.getElem?_cons_zero]; exact rfl) (by kernel_rfl) 12 (by kernel_rfl) (by kernel_rfl) (fun _ _ _ h => h) (by kernel_rfl) (by kernel_rfl) (by kernel_rfl) (by kernel_rfl) (Or.inl ⟨by rfl, fun w hSw => (by go_simp; try with_reducible rfl)⟩) (by with_reducible exact HD.out) ?_
              try simp only [Act.put, List.setIfInBounds_toArray, List.set_cons_zero, List.set_cons_succ]
              refine anyU_take2 (i := 15) (v := .slice B n b) (by simp only [List.getElem?_toArray, List.getElem?_cons_succ, List.getElem?_cons_zero]; exact rfl) (by kernel_rfl) 12 (by kernel_rfl) (by kernel_rfl) (fun _ _ _ h => h) (by kernel_rfl) (by kernel_rfl) (by kernel_rfl) (by kernel_rfl) (Or.inl ⟨by rfl, fun w hSw => (by have x0 := (SY.out.below hSw).row.cell 1; change w.cell? ⟨g, 1, none⟩ = some (.slice B n b) at x0; go_simp; try with_reducible rfl)⟩) (by with_reducible exact HD.out) ?_
              try simp only [Act.put, List.setIfInBounds_toArray, List.set_cons_zero, List.set_cons_succ]
              refine anyU_take2 (i := 16) (v := .int .i64 (p : Nat)) (by simp only [List.getElem?_toArray, List.getElem?_cons_succ, List.getElem?_cons_zero]; exact rfl) (by kernel_rfl) 12 (by kernel_rfl) (by kernel_rfl) (fun _ _ _ h => h) (by kernel_rfl) (by kernel_rfl) (by kernel_rfl) (by kernel_rfl) (Or.inl ⟨by rfl, fun w hSw => (by go_simp; try with_reducible rfl)⟩) (by with_reducible exact HD.out) ?_
              try simp only [Act.put, List.setIfInBounds_toArray, List.set_cons_zero, List.set_cons_succ]
              refine anyU_take2 (i := 17) (v := .slice (partV 21 B b p) (n - p) (b - p)) (by simp only [List.getElem?_toArray, List.getElem?_cons_succ, List.getElem?_cons_zero]; exact rfl) (by kernel_rfl) 12 (by kernel_rfl) (by kernel_rfl) (fun _ _ _ h => h) (by kernel_rfl) (by kernel_rfl) (by kernel_rfl) (by kernel_rfl) (Or.inl ⟨by rfl, fun w hSw => (by go_simp; try with_reducible rfl)⟩) (by with_reducible exact HD.out) ?_
              try simp only [Act.put, List.setIfInBounds_toArray, List.set_cons_zero, List.set_cons_succ]
              clear hpv
              refine anyU_two (i := 1) (j := 10) (by kernel_rfl) (by simp only [List.getElem?_toArray, List.getElem?_cons_succ, List.getElem?_cons_zero]; exact rfl) (by simp only [List.getElem?_toArray, List.getElem?_cons_succ, List.getElem?_cons_zero]; exact rfl) (fun K hK => ?_) (fun K hK => ?_)
              · skip
                refine step_lit0 (lit0_cell _) ?_
                have HV := hide (rw_lit0 wt.heap.size 37 21 wd HD.out.size)
                have HD := hide (kept_alloc HD.out (.cells #[] 37))
                refine hK.out _ _ (fun _ _ => HD.out) ?_
                clear hK K
                try simp only [Act.put, List.setIfInBounds_toArray, List.set_cons_zero, List.set_cons_succ]
                generalize wd.alloc (.cells #[] 37) = wv15 at HV HD ⊢
                generalize wd.heap.size = gb15 at HV ⊢
                refine anyU_two (i := 8) (j := 10) (by kernel_rfl) (by simp only [List.getElem?_toArray, List.getElem?_cons_succ, List.getElem?_cons_zero]; exact rfl) (by simp only [List.getElem?_toArray, List.getElem?_cons_succ, List.getElem?_cons_zero]; exact rfl) (fun K hK => ?_) (fun K hK => ?_)
                · skip
                  refine step_append_rw elm_cell (by decide) rfl HV.out rfl (fun x hx => (cV_all L8.out) x (List.mem_of_mem_take hx)) (HLT.out) hB0 ((HEC.out _ HD.out).take p) (by simp only [List.length_nil]; omega) HD.out.size ?_
                  intro v1 wv16 hr hg
                  have HD := hide (below_grow HD.out HV.out hg)
                  have HV := hide hr
                  clear hr hg
                  rw [List.nil_append] at HV
                  refine hK.out _ _ (fun _ _ => HD.out) ?_
                  clear hK K
                  try simp only [Act.put, List.setIfInBounds_toArray, List.set_cons_zero, List.set_cons_succ]
                  refine anyU_one (i := 10) (by kernel_rfl) (by simp only [List.getElem?_toArray, List.getElem?_cons_succ, List.getElem?_cons_zero]; exact rfl) (fun K hK => ?_)
                  refine step_lit1 rfl (lit_cell_l h8 _) ?_
                  have HZ := hide (Row.new wv16 37 c.l.toArray)
                  have HV := hide (HV.out.alloc (.cells c.l.toArray 37))
                  have HD := hide (kept_alloc HD.out (.cells c.l.toArray 37))
                  refine hK.out _ _ (fun _ _ => HD.out) ?_
                  clear hK K
                  try simp only [Act.put, List.setIfInBounds_toArray, List.set_cons_zero, List.set_cons_succ]
                  generalize wv16.alloc (.cells c.l.toArray 37) = wv17 at HV HZ HD ⊢
                  generalize wv16.heap.size = gz17 at HZ ⊢
                  refine anyU_one (i := 11) (by kernel_rfl) (by simp only [List.getElem?_toArray, List.getElem?_cons_succ, List.getElem?_cons_zero]; exact rfl) (fun K hK => ?_)
                  refine step_append_rw elm_cell (by decide) rfl HV.out rfl (fun x hx => by rw [List.mem_singleton.1 hx]; exact ⟨(Cl.len h8), (one_cl c)⟩) rfl (fun h => by cases h) (els_lit HZ.out (Cl.len h8) (one_cl c)) (by rw [HLT.out]; omega) HD.out.size ?_
                  intro v2 wv18 hr hg
                  have HD := hide (below_grow HD.out HV.out hg)
                  have HV := hide hr
                  clear hr hg
                  refine hK.out _ _ (fun _ _ => HD.out) ?_
                  clear hK K
                  try simp only [Act.put, List.setIfInBounds_toArray, List.set_cons_zero, List.set_cons_succ]
                  refine anyU_one (i := 18) (by kernel_rfl) (by simp only [List.getElem?_toArray, List.getElem?_cons_succ, List.getElem?_cons_zero]; exact rfl) (fun K hK => ?_)
                  refine step_append_rw elm_cell (by decide) rfl HV.out rfl (fun x hx => (cV_all L8.out) x (List.mem_of_mem_drop hx)) HLD.out (fun h => partV_none hB0 h) ((HEC.out _ HD.out).rest HLC.out p) (by rw [List.length_append, HLT.out]; simp only [List.length_cons, List.length_nil]; omega) HD.out.size ?_
                  intro v3 wv19 hr hg
                  have HD := hide (below_grow HD.out HV.out hg)
                  have HV := hide hr
                  clear hr hg
                  refine hK.out _ _ (fun _ _ => HD.out) ?_
                  clear hK K
                  try simp only [Act.put, List.setIfInBounds_toArray, List.set_cons_zero, List.set_cons_succ]
                  have HV := hide (show Rw wt.heap.size 37 21 wv19 v3 (cV (k.take p ++ ([⟨(i1, i2), c⟩] ++ k.drop p))) from by rw [← cV_mid]; exact HV.out)
                  obtain ⟨B3, b4, hy, -⟩ := els_own_form HV.out
                  generalize (cV (k.take p ++ ([⟨(i1, i2), c⟩] ++ k.drop p))).length = m4 at hy
                  subst hy
                  have SY := hide (SY.out.below HD.out)
                  have x0 := SY.out.row.cell 1
                  have f0 := SY.out.row.free 1
                  change wv19.cell? ⟨g, 1, none⟩ = some (.slice B n b) at x0
                  refine anyU_take2 (i := 19) (v := .pointer (some ⟨g, 0, none⟩)) (by simp only [List.getElem?_toArray, List.getElem?_cons_succ, List.getElem?_cons_zero]; exact rfl) (by kernel_rfl) 12 (by kernel_rfl) (by kernel_rfl) (fun _ _ _ h => h) (by kernel_rfl) (by kernel_rfl) (by kernel_rfl) (by kernel_rfl) (Or.inl ⟨by rfl, fun w hSw => (by go_simp; try with_reducible rfl)⟩) (by with_reducible exact HD.out) ?_
                  try simp only [Act.put, List.setIfInBounds_toArray, List.set_cons_zero, List.set_cons_succ]
                  refine anyU_take2 (i := 20) (v := .pointer (some ⟨g, 1, none⟩)) (by simp only [List.getElem?_toArray, List.getElem?_cons_succ, List.getElem?_cons_zero]; exact rfl) (by kernel_rfl) 12 (by kernel_rfl) (by kernel_rfl) (fun _ _ _ h => h) (by kernel_rfl) (by kernel_rfl) (by kernel_rfl) (by kernel_rfl) (Or.inl ⟨by rfl, fun w hSw => (by go_simp; try with_reducible rfl)⟩) (by with_reducible exact HD.out) ?_
                  try simp only [Act.put, List.setIfInBounds_toArray, List.set_cons_zero, List.set_cons_succ]
                  refine anyU_one (i := 21) (by kernel_rfl) (by simp only [List.getElem?_toArray, List.getElem?_cons_succ, List.getElem?_cons_zero]; exact rfl) (fun K hK => ?_)
                  try go_simp
                  refine hK.out _ _ (fun e _ => absurd rfl e) ?_
                  clear hK K
                  try simp only [Act.put]
                  refine anyU_done (by kernel_rfl) ?_
                  refine NoPanic.normal ?_
                  try simp only [Act.put]
                  clear x0 f0
                  have HZZ := hide (SY.out.fin HV.out HBW.out D7.out L8.out h8)
                  go_wp2
                  go_ret
                  exact ⟨by rw [HM.out]; rfl, ⟨_, _, by rw [set_yes HM.out]; show Ro base _ g _ _ (putL k (i1, i2) c) d; rw [HP.out]; exact HZZ.out.1⟩, HZZ.out.2.mono fun b h => .inl h⟩
                · skip
                  refine step_lit1 rfl (lit_cell_l h8 _) ?_
                  have HZ := hide (Row.new wv15 37 c.l.toArray)
                  have HNE := hide (show some wv15.heap.size ≠ some gb15 from fun e => by injection e with e; have := (HV.out.lt gb15 rfl).2; omega)
                  have HV := hide (HV.out.alloc (.cells c.l.toArray 37))
                  have HD := hide (kept_alloc HD.out (.cells c.l.toArray 37))
                  refine hK.out _ _ (fun _ _ => HD.out) ?_
                  clear hK K
                  try simp only [Act.put, List.setIfInBounds_toArray, List.set_cons_zero, List.set_cons_succ]
                  generalize wv15.alloc (.cells c.l.toArray 37) = wv20 at HV HZ HD ⊢
                  generalize wv15.heap.size = gz20 at HZ HNE ⊢
                  refine anyU_one (i := 8) (by kernel_rfl) (by simp only [List.getElem?_toArray, List.getElem?_cons_succ, List.getElem?_cons_zero]; exact rfl) (fun K hK => ?_)
                  refine step_append_rw elm_cell (by decide) rfl HV.out rfl (fun x hx => (cV_all L8.out) x (List.mem_of_mem_take hx)) (HLT.out) hB0 ((HEC.out _ HD.out).take p) (by simp only [List.length_nil]; omega) HD.out.size ?_
                  intro v1 wv21 hr hg
                  have HZ := hide (HZ.out.grown hg HNE.out)
                  have HD := hide (below_grow HD.out HV.out hg)
                  have HV := hide hr
                  clear hr hg
                  rw [List.nil_append] at HV
                  refine hK.out _ _ (fun _ _ => HD.out) ?_
                  clear hK K
                  try simp only [Act.put, List.setIfInBounds_toArray, List.set_cons_zero, List.set_cons_succ]
                  refine anyU_one (i := 11) (by kernel_rfl) (by simp only [List.getElem?_toArray, List.getElem?_cons_succ, List.getElem?_cons_zero]; exact rfl) (fun K hK => ?_)
                  refine step_append_rw elm_cell (by decide) rfl HV.out rfl (fun x hx => by rw [List.mem_singleton.1 hx]; exact ⟨(Cl.len h8), (one_cl c)⟩) rfl (fun h => by cases h) (els_lit HZ.out (Cl.len h8) (one_cl c)) (by rw [HLT.out]; omega) HD.out.size ?_
                  intro v2 wv22 hr hg
                  have HD := hide (below_grow HD.out HV.out hg)
                  have HV := hide hr
                  clear hr hg
                  refine hK.out _ _ (fun _ _ => HD.out) ?_
                  clear hK K
                  try simp only [Act.put, List.setIfInBounds_toArray, List.set_cons_zero, List.set_cons_succ]
                  refine anyU_one (i := 18) (by kernel_rfl) (by simp only [List.getElem?_toArray, List.getElem?_cons_succ, List.getElem?_cons_zero]; exact rfl) (fun K hK => ?_)
                  refine step_append_rw elm_cell (by decide) rfl HV.out rfl (fun x hx => (cV_all L8.out) x (List.mem_of_mem_drop hx)) HLD.out (fun h => partV_none hB0 h) ((HEC.out _ HD.out).rest HLC.out p) (by rw [List.length_append, HLT.out]; simp only [List.length_cons, List.length_nil]; omega) HD.out.size ?_
                  intro v3 wv23 hr hg
                  have HD := hide (below_grow HD.out HV.out hg)
                  have HV := hide hr
                  clear hr hg
                  refine hK.out _ _ (fun _ _ => HD.out) ?_
                  clear hK K
                  try simp only [Act.put, List.setIfInBounds_toArray, List.set_cons_zero, List.set_cons_succ]
                  have HV := hide (show Rw wt.heap.size 37 21 wv23 v3 (cV (k.take p ++ ([⟨(i1, i2), c⟩] ++ k.drop p))) from by rw [← cV_mid]; exact HV.out)
                  obtain ⟨B3, b4, hy, -⟩ := els_own_form HV.out
                  generalize (cV (k.take p ++ ([⟨(i1, i2), c⟩] ++ k.drop p))).length = m4 at hy
                  subst hy
                  have SY := hide (SY.out.below HD.out)
                  have x0 := SY.out.row.cell 1
                  have f0 := SY.out.row.free 1
                  change wv23.cell? ⟨g, 1, none⟩ = some (.slice B n b) at x0
                  refine anyU_take2 (i := 19) (v := .pointer (some ⟨g, 0, none⟩)) (by simp only [List.getElem?_toArray, List.getElem?_cons_succ, List.getElem?_cons_zero]; exact rfl) (by kernel_rfl) 12 (by kernel_rfl) (by kernel_rfl) (fun _ _ _ h => h) (by kernel_rfl) (by kernel_rfl) (by kernel_rfl) (by kernel_rfl) (Or.inl ⟨by rfl, fun w hSw => (by go_simp; try with_reducible rfl)⟩) (by with_reducible exact HD.out) ?_
                  try simp only [Act.put, List.setIfInBounds_toArray, List.set_cons_zero, List.set_cons_succ]
                  refine anyU_take2 (i := 20) (v := .pointer (some ⟨g, 1, none⟩)) (by simp only [List.getElem?_toArray, List.getElem?_cons_succ, List.getElem?_cons_zero]; exact rfl) (by kernel_rfl) 12 (by kernel_rfl) (by kernel_rfl) (fun _ _ _ h => h) (by kernel_rfl) (by kernel_rfl) (by kernel_rfl) (by kernel_rfl) (Or.inl ⟨by rfl, fun w hSw => (by go_simp; try with_reducible rfl)⟩) (by with_reducible exact HD.out) ?_
                  try simp only [Act.put, List.setIfInBounds_toArray, List.set_cons_zero, List.set_cons_succ]
                  refine anyU_one (i := 21) (by kernel_rfl) (by simp only [List.getElem?_toArray, List.getElem?_cons_succ, List.getElem?_cons_zero]; exact rfl) (fun K hK => ?_)
                  try go_simp
                  refine hK.out _ _ (fun e _ => absurd rfl e) ?_
                  clear hK K
                  try simp only [Act.put]
                  refine anyU_done (by kernel_rfl) ?_
                  refine NoPanic.normal ?_
                  try simp only [Act.put]
                  clear x0 f0
                  have HZZ := hide (SY.out.fin HV.out HBW.out D7.out L8.out h8)
                  go_wp2
                  go_ret
                  exact ⟨by rw [HM.out]; rfl, ⟨_, _, by rw [set_yes HM.out]; show Ro base _ g _ _ (putL k (i1, i2) c) d; rw [HP.out]; exact HZZ.out.1⟩, HZZ.out.2.mono fun b h => .inl h⟩
              · skip
                refine step_lit1 rfl (lit_cell_l h8 _) ?_
                have HZ := hide (Row.new wd 37 c.l.toArray)
                have HD := hide (kept_alloc HD.out (.cells c.l.toArray 37))
                refine hK.out _ _ (fun _ _ => HD.out) ?_
                clear hK K
                try simp only [Act.put, List.setIfInBounds_toArray, List.set_cons_zero, List.set_cons_succ]
                generalize wd.alloc (.cells c.l.toArray 37) = wv24 at HZ HD ⊢
                generalize wd.heap.size = gz24 at HZ ⊢
                refine anyU_one (i := 1) (by kernel_rfl) (by simp only [List.getElem?_toArray, List.getElem?_cons_succ, List.getElem?_cons_zero]; exact rfl) (fun K hK => ?_)
                refine step_lit0 (lit0_cell _) ?_
                have HV := hide (rw_lit0 wt.heap.size 37 21 wv24 HD.out.size)
                have HNE := hide (show some gz24 ≠ some wv24.heap.size from fun e => by injection e with e; have := HZ.out.lt; omega)
                have HZ := hide (HZ.out.alloc (.cells #[] 37))
                have HD := hide (kept_alloc HD.out (.cells #[] 37))
                refine hK.out _ _ (fun _ _ => HD.out) ?_
                clear hK K
                try simp only [Act.put, List.setIfInBounds_toArray, List.set_cons_zero, List.set_cons_succ]
                generalize wv24.alloc (.cells #[] 37) = wv25 at HV HD HZ ⊢
                generalize wv24.heap.size = gb25 at HV HNE ⊢
                refine anyU_one (i := 8) (by kernel_rfl) (by simp only [List.getElem?_toArray, List.getElem?_cons_succ, List.getElem?_cons_zero]; exact rfl) (fun K hK => ?_)
                refine step_append_rw elm_cell (by decide) rfl HV.out rfl (fun x hx => (cV_all L8.out) x (List.mem_of_mem_take hx)) (HLT.out) hB0 ((HEC.out _ HD.out).take p) (by simp only [List.length_nil]; omega) HD.out.size ?_
                intro v1 wv26 hr hg
                have HZ := hide (HZ.out.grown hg HNE.out)
                have HD := hide (below_grow HD.out HV.out hg)
                have HV := hide hr
                clear hr hg
                rw [List.nil_append] at HV
                refine hK.out _ _ (fun _ _ => HD.out) ?_
                clear hK K
                try simp only [Act.put, List.setIfInBounds_toArray, List.set_cons_zero, List.set_cons_succ]
                refine anyU_one (i := 11) (by kernel_rfl) (by simp only [List.getElem?_toArray, List.getElem?_cons_succ, List.getElem?_cons_zero]; exact rfl) (fun K hK => ?_)
                refine step_append_rw elm_cell (by decide) rfl HV.out rfl (fun x hx => by rw [List.mem_singleton.1 hx]; exact ⟨(Cl.len h8), (one_cl c)⟩) rfl (fun h => by cases h) (els_lit HZ.out (Cl.len h8) (one_cl c)) (by rw [HLT.out]; omega) HD.out.size ?_
                intro v2 wv27 hr hg
                have HD := hide (below_grow HD.out HV.out hg)
                have HV := hide hr
                clear hr hg
                refine hK.out _ _ (fun _ _ => HD.out) ?_
                clear hK K
                try simp only [Act.put, List.setIfInBounds_toArray, List.set_cons_zero, List.set_cons_succ]
                refine anyU_one (i := 18) (by kernel_rfl) (by simp only [List.getElem?_toArray, List.getElem?_cons_succ, List.getElem?_cons_zero]; exact rfl) (fun K hK => ?_)
                refine step_append_rw elm_cell (by decide) rfl HV.out rfl (fun x hx => (cV_all L8.out) x (List.mem_of_mem_drop hx)) HLD.out (fun h => partV_none hB0 h) ((HEC.out _ HD.out).rest HLC.out p) (by rw [List.length_append, HLT.out]; simp only [List.length_cons, List.length_nil]; omega) HD.out.size ?_
                intro v3 wv28 hr hg
                have HD := hide (below_grow HD.out HV.out hg)
                have HV := hide hr
                clear hr hg
                refine hK.out _ _ (fun _ _ => HD.out) ?_
                clear hK K
                try simp only [Act.put, List.setIfInBounds_toArray, List.set_cons_zero, List.set_cons_succ]
                have HV := hide (show Rw wt.heap.size 37 21 wv28 v3 (cV (k.take p ++ ([⟨(i1, i2), c⟩] ++ k.drop p))) from by rw [← cV_mid]; exact HV.out)
                obtain ⟨B3, b4, hy, -⟩ := els_own_form HV.out
                generalize (cV (k.take p ++ ([⟨(i1, i2), c⟩] ++ k.drop p))).length = m4 at hy
                subst hy
                have SY := hide (SY.out.below HD.out)
                have x0 := SY.out.row.cell 1
                have f0 := SY.out.row.free 1
                change wv28.cell? ⟨g, 1, none⟩ = some (.slice B n b) at x0
                refine anyU_take2 (i := 19) (v := .pointer (some ⟨g, 0, none⟩)) (by simp only [List.getElem?_toArray, List.getElem?_cons_succ, List.getElem?_cons_zero]; exact rfl) (by kernel_rfl) 12 (by kernel_rfl) (by kernel_rfl) (fun _ _ _ h => h) (by kernel_rfl) (by kernel_rfl) (by kernel_rfl) (by kernel_rfl) (Or.inl ⟨by rfl, fun w hSw => (by go_simp; try with_reducible rfl)⟩) (by with_reducible exact HD.out) ?_
                try simp only [Act.put, List.setIfInBounds_toArray, List.set_cons_zero, List.set_cons_succ]
                refine anyU_take2 (i := 20) (v := .pointer (some ⟨g, 1, none⟩)) (by simp only [List.getElem?_toArray, List.getElem?_cons_succ, List.getElem?_cons_zero]; exact rfl) (by kernel_rfl) 12 (by kernel_rfl) (by kernel_rfl) (fun _ _ _ h => h) (by kernel_rfl) (by kernel_rfl) (by kernel_rfl) (by kernel_rfl) (Or.inl ⟨by rfl, fun w hSw => (by go_simp; try with_reducible rfl)⟩) (by with_reducible exact HD.out) ?_
                try simp only [Act.put, List.setIfInBounds_toArray, List.set_cons_zero, List.set_cons_succ]
                refine anyU_one (i := 21) (by kernel_rfl) (by simp only [List.getElem?_toArray, List.getElem?_cons_succ, List.getElem?_cons_zero]; exact rfl) (fun K hK => ?_)
                try go_simp
                refine hK.out _ _ (fun e _ => absurd rfl e) ?_
                clear hK K
                try simp only [Act.put]
                refine anyU_done (by kernel_rfl) ?_
                refine NoPanic.normal ?_
                try simp only [Act.put]
                clear x0 f0
                have HZZ := hide (SY.out.fin HV.out HBW.out D7.out L8.out h8)
                go_wp2
                go_ret
                exact ⟨by rw [HM.out]; rfl, ⟨_, _, by rw [set_yes HM.out]; show Ro base _ g _ _ (putL k (i1, i2) c) d; rw [HP.out]; exact HZZ.out.1⟩, HZZ.out.2.mono fun b h => .inl h⟩
          · skip
            refine step_lit1 rfl (lit_inst i1 i2 _) ?_
            have HZ := hide (Row.new wd 28 [Value.int .i64 i1, Value.int .i64 i2].toArray)
            have HD := hide (kept_alloc HD.out (.cells [Value.int .i64 i1, Value.int .i64 i2].toArray 28))
            refine hK.out _ _ (fun _ _ => HD.out) ?_
            clear hK K
            try simp only [Act.put, List.setIfInBounds_toArray, List.set_cons_zero, List.set_cons_succ]
            generalize wd.alloc (.cells [Value.int .i64 i1, Value.int .i64 i2].toArray 28) = wv10 at HZ HD ⊢
            generalize wd.heap.size = gz10 at HZ ⊢
            refine anyU_one (i := 1) (by kernel_rfl) (by simp only [List.getElem?_toArray, List.getElem?_cons_succ, List.getElem?_cons_zero]; exact rfl) (fun K hK => ?_)
            refine step_lit0 (lit0_inst _) ?_
            have HV := hide (rw_lit0 w5.heap.size 28 2 wv10 HD.out.size)
            have HNE := hide (show some gz10 ≠ some wv10.heap.size from fun e => by injection e with e; have := HZ.out.lt; omega)
            have HZ := hide (HZ.out.alloc (.cells #[] 28))
            have HD := hide (kept_alloc HD.out (.cells #[] 28))
            refine hK.out _ _ (fun _ _ => HD.out) ?_
            clear hK K
            try simp only [Act.put, List.setIfInBounds_toArray, List.set_cons_zero, List.set_cons_succ]
            generalize wv10.alloc (.cells #[] 28) = wv11 at HV HD HZ ⊢
            generalize wv10.heap.size = gb11 at HV HNE ⊢
            refine anyU_one (i := 8) (by kernel_rfl) (by simp only [List.getElem?_toArray, List.getElem?_cons_succ, List.getElem?_cons_zero]; exact rfl) (fun K hK => ?_)
            refine step_append_rw elm_inst (by decide) rfl HV.out rfl (fun x hx => iV_all k x (List.mem_of_mem_take hx)) (HLT.out) hA0 ((HEI.out _ HD.out).take p) (by simp only [List.length_nil]; omega) HD.out.size ?_
            intro v1 wv12 hr hg
            have HZ := hide (HZ.out.grown hg HNE.out)
            have HD := hide (below_grow HD.out HV.out hg)
            have HV := hide hr
            clear hr hg
            rw [List.nil_append] at HV
            refine hK.out _ _ (fun _ _ => HD.out) ?_
            clear hK K
            try simp only [Act.put, List.setIfInBounds_toArray, List.set_cons_zero, List.set_cons_succ]
            refine anyU_one (i := 11) (by kernel_rfl) (by simp only [List.getElem?_toArray, List.getElem?_cons_succ, List.getElem?_cons_zero]; exact rfl) (fun K hK => ?_)
            refine step_append_rw elm_inst (by decide) rfl HV.out rfl (fun x hx => by rw [List.mem_singleton.1 hx]; exact ⟨rfl, (fun u hu => by simp at hu; rcases hu with rfl | rfl <;> rfl)⟩) rfl (fun h => by cases h) (els_lit HZ.out rfl (fun u hu => by simp at hu; rcases hu with rfl | rfl <;> rfl)) (by rw [HLT.out]; omega) HD.out.size ?_
            intro v2 wv13 hr hg
            have HD := hide (below_grow HD.out HV.out hg)
            have HV := hide hr
            clear hr hg
            refine hK.out _ _ (fun _ _ => HD.out) ?_
            clear hK K
            try simp only [Act.put, List.setIfInBounds_toArray, List.set_cons_zero, List.set_cons_succ]
            refine anyU_one (i := 18) (by kernel_rfl) (by simp only [List.getElem?_toArray, List.getElem?_cons_succ, List.getElem?_cons_zero]; exact rfl) (fun K hK => ?_)
            refine step_append_rw elm_inst (by decide) rfl HV.out rfl (fun x hx => iV_all k x (List.mem_of_mem_drop hx)) HLD.out (fun h => partV_none hA0 h) ((HEI.out _ HD.out).rest HLC.out p) (by rw [List.length_append, HLT.out]; simp only [List.length_cons, List.length_nil]; omega) HD.out.size ?_
            intro v3 wv14 hr hg
            have HD := hide (below_grow HD.out HV.out hg)
            have HV := hide hr
            clear hr hg
            refine hK.out _ _ (fun _ _ => HD.out) ?_
            clear hK K
            try simp only [Act.put, List.setIfInBounds_toArray, List.set_cons_zero, List.set_cons_succ]
            have HV := hide (show Rw w5.heap.size 28 2 wv14 v3 (iV (k.take p ++ ([⟨(i1, i2), c⟩] ++ k.drop p))) from by rw [← iV_mid]; exact HV.out)
            obtain ⟨A3, a3, hy, -⟩ := els_own_form HV.out
            generalize (iV (k.take p ++ ([⟨(i1, i2), c⟩] ++ k.drop p))).length = m3 at hy
            subst hy
            have x0 := (H0.out.ro.below HD.out).c0
            have f0 := (H0.out.ro.below HD.out).row.free 0
            refine anyU_take2 (i := 19) (v := .pointer (some ⟨g, 0, none⟩)) (by simp only [List.getElem?_toArray, List.getElem?_cons_succ, List.getElem?_cons_zero]; exact rfl) (by kernel_rfl) 12 (by kernel_rfl) (by kernel_rfl) (fun _ _ _ h => h) (by kernel_rfl) (by kernel_rfl) (by kernel_rfl) (by kernel_rfl) (Or.inl ⟨by rfl, fun w hSw => (by go_simp; try with_reducible rfl)⟩) (by with_reducible exact HD.out) ?_
            try simp only [Act.put, List.setIfInBounds_toArray, List.set_cons_zero, List.set_cons_succ]
            refine anyU_take2 (i := 20) (v := .pointer (some ⟨g, 0, none⟩)) (by simp only [List.getElem?_toArray, List.getElem?_cons_succ, List.getElem?_cons_zero]; exact rfl) (by kernel_rfl) 12 (by kernel_rfl) (by kernel_rfl) (fun _ _ _ h => h) (by kernel_rfl) (by kernel_rfl) (by kernel_rfl) (by kernel_rfl) (Or.inl ⟨by rfl, fun w hSw => (by go_simp; try with_reducible rfl)⟩) (by with_reducible exact HD.out) ?_
            try simp only [Act.put, List.setIfInBounds_toArray, List.set_cons_zero, List.set_cons_succ]
            refine anyU_one (i := 21) (by kernel_rfl) (by simp only [List.getElem?_toArray, List.getElem?_cons_succ, List.getElem?_cons_zero]; exact rfl) (fun K hK => ?_)
            try go_simp
            refine hK.out _ _ (fun e _ => absurd rfl e) ?_
            clear hK K
            try simp only [Act.put]
            refine anyU_done (by kernel_rfl) ?_
            refine NoPanic.normal ?_
            try simp only [Act.put]
            clear x0 f0
            have SY := hide (Sy.start H0.out HD.out HV.out hgw)
            generalize wv14.setCell ⟨g, 0, none⟩ (.slice A3 m3 a3) = wt at SY ⊢
            have HBW := hide (show base ≤ w5.heap.size ∧ base ≤ wt.heap.size from ⟨Nat.le_trans hb H0.out.low.size, Nat.le_trans hb SY.out.kq.size⟩)
            clear HV HD
            go_upto_region 11 with (fail)
            have HEC := hide (fun w' (hb : Below wt.heap.size wt w') => (show Els 21 w' B (cV k) from by
              have hr := (SY.out.below hb).rc
              unfold Rw at hr
              rw [cV_len, HNN.out] at hr
              exact (els_own hr (cV_all L8.out) (by omega)).1))
            have HLT := HLT2
            have HLD := HLD2
            have HLC := HLC2
            refine wp_region_noPanic ?_
            refine wp_region_U 21 (fun w' : World => Below wt.heap.size wt w') (by kernel_rfl) ?_
            have HD := hide (show Below wt.heap.size wt wt.drew from kept_drewN (kept_refl _) 1)
            generalize wt.drew = wd at HD ⊢
            have hpv : (if b = p then B else Option.map (fun x => x.add (p * 21)) B) = partV 21 B b p := rfl
            refine anyU_take2 (i := 0) (v := .pointer (some ⟨g, 0, none⟩)) (by simp only [List.getElem?_toArray, List.getElem?_cons_zero]; exact rfl) (by kernel_rfl) 12 (by kernel_rfl) (by kernel_rfl) (fun _ _ _ h => h) (by kernel_rfl) (by kernel_rfl) (by kernel_rfl) (by kernel_rfl) (Or.inl ⟨by rfl, fun w hSw => (by go_simp; try with_reducible rfl)⟩) (by with_reducible exact HD.out) ?_
            try simp only [Act.put, List.setIfInBounds_toArray, List.set_cons_zero, List.set_cons_succ]
            refine anyU_take2 (i := 2) (v := .pointer (some ⟨g, 0, none⟩)) (by simp only [List.getElem?_toArray, List.getElem?_cons_succ, List.getElem?_cons_zero]; exact rfl) (by kernel_rfl) 12 (by kernel_rfl) (by kernel_rfl) (fun _ _ _ h => h) (by kernel_rfl) (by kernel_rfl) (by kernel_rfl) (by kernel_rfl) (Or.inl ⟨by rfl, fun w hSw => (by go_simp; try with_reducible rfl)⟩) (by with_reducible exact HD.out) ?_
            try simp only [Act.put, List.setIfInBounds_toArray, List.set_cons_zero, List.set_cons_succ]
            refine anyU_take2 (i := 3) (v := .pointer (some ⟨g, 0, none⟩)) (by simp only [List.getElem?_toArray, List.getElem?_cons_succ, List.getElem?_cons_zero]; exact rfl) (by kernel_rfl) 12 (by kernel_rfl) (by kernel_rfl) (fun _ _ _ h => h) (by kernel_rfl) (by kernel_rfl) (by kernel_rfl) (by kernel_rfl) (Or.inl ⟨by rfl, fun w hSw => (by go_simp; try with_reducible rfl)⟩) (by with_reducible exact HD.out) ?_
            try simp only [Act.put, List.setIfInBounds_toArray, List.set_cons_zero, List.set_cons_succ]
            refine anyU_take2 (i := 4) (v := .pointer (some ⟨g, 1, none⟩)) (by simp only [List.getElem?_toArray, List.getElem?_cons_succ, List.getElem?_cons_zero]; exact rfl) (by kernel_rfl) 12 (by kernel_rfl) (by kernel_rfl) (fun _ _ _ h => h) (by kernel_rfl) (by kernel_rfl) (by kernel_rfl) (by kernel_rfl) (Or.inl ⟨by rfl, fun w hSw => (by go_simp; try with_reducible rfl)⟩) (by with_reducible exact HD.out) ?_
            try simp only [Act.put, List.setIfInBounds_toArray, List.set_cons_zero, List.set_cons_succ]
            refine anyU_take2 (i := 5) (v := .slice B n b) (by simp only [List.getElem?_toArray, List.getElem?_cons_succ, List.getElem?_cons_zero]; exact rfl) (by kernel_rfl) 12 (by kernel_rfl) (by kernel_rfl) (fun _ _ _ h => h) (by kernel_rfl) (by kernel_rfl) (by kernel_rfl) (by kernel_rfl) (Or.inl ⟨by rfl, fun w hSw => (by have x0 := (SY.out.below hSw).row.cell 1; change w.cell? ⟨g, 1, none⟩ = some (.slice B n b) at x0; go_simp; try with_reducible rfl)⟩) (by with_reducible exact HD.out) ?_
            try simp only [Act.put, List.setIfInBounds_toArray, List.set_cons_zero, List.set_cons_succ]
            refine anyU_take2 (i := 6) (v := .int .i64 (p : Nat)) (by simp only [List.getElem?_toArray, List.getElem?_cons_succ, List.getElem?_cons_zero]; exact rfl) (by kernel_rfl) 12 (by kernel_rfl) (by kernel_rfl) (fun _ _ _ h => h) (by kernel_rfl) (by kernel_rfl) (by kernel_rfl) (by kernel_rfl) (Or.inl ⟨by rfl, fun w hSw => (by go_simp; try with_reducible rfl)⟩) (by with_reducible exact HD.out) ?_
            try simp only [Act.put, List.setIfInBounds_toArray, List.set_cons_zero, List.set_cons_succ]
            refine anyU_take2 (i := 7) (v := .slice B p b) (by simp only [List.getElem?_toArray, List.getElem?_cons_succ, List.getElem?_cons_zero]; exact rfl) (by kernel_rfl) 12 (by kernel_rfl) (by kernel_rfl) (fun _ _ _ h => h) (by kernel_rfl) (by kernel_rfl) (by kernel_rfl) (by kernel_rfl) (Or.inl ⟨by rfl, fun w hSw => (by go_simp; try with_reducible rfl)⟩) (by with_reducible exact HD.out) ?_
            try simp only [Act.put, List.setIfInBounds_toArray, List.set_cons_zero, List.set_cons_succ]
            refine anyU_take2 (i := 9) (v := .agg (clC c)) (by simp only [List.getElem?_toArray, List.getElem?_cons_succ, List.getElem?_cons_zero]; exact rfl) (by kernel_rfl) 12 (by kernel_rfl) (by kernel_rfl) (fun _ _ _ h => h) (by kernel_rfl) (by kernel_rfl) (by kernel_rfl) (by kernel_rfl) (Or.inl ⟨by rfl, fun w hSw => exec_load_gp rfl rfl (SY.out.below hSw).bc.all ce_under rfl (by rw [Cl.len h8]; exact ce_info)⟩) (by with_reducible exact HD.out) ?_
            try simp only [Act.put, List.setIfInBounds_toArray, List.set_cons_zero, List.set_cons_succ]
            refine anyU_take2 (i := 12) (v := .pointer (some ⟨g, 0, none⟩)) (by simp only [List.getElem?_toArray, List.getElem?_cons_succ, List.getElem?_cons_zero]; exact rfl) (by kernel_rfl) 12 (by kernel_rfl) (by kernel_rfl) (fun _ _ _ h => h) (by kernel_rfl) (by kernel_rfl) (by kernel_rfl) (by kernel_rfl) (Or.inl ⟨by rfl, fun w hSw => (by go_simp; try with_reducible rfl)⟩) (by with_reducible exact HD.out) ?_
            try simp only [Act.put, List.setIfInBounds_toArray, List.set_cons_zero, List.set_cons_succ]
            refine anyU_take2 (i := 13) (v := .pointer (some ⟨g, 0, none⟩)) (by simp only [List.getElem?_toArray, List.getElem?_cons_succ, List.getElem?_cons_zero]; exact rfl) (by kernel_rfl) 12 (by kernel_rfl) (by kernel_rfl) (fun _ _ _ h => h) (by kernel_rfl) (by kernel_rfl) (by kernel_rfl) (by kernel_rfl) (Or.inl ⟨by rfl, fun w hSw => (by go_simp; try with_reducible rfl)⟩) (by with_reducible exact HD.out) ?_
            try simp only [Act.put, List.setIfInBounds_toArray, List.set_cons_zero, List.set_cons_succ]
            refine anyU_take2 (i := 14) (v := .pointer (some ⟨g, 1, none⟩)) (by simp only [List.getElem?_toArray, List.getElem?_cons_succ, List.getElem?_cons_zero]; exact rfl) (by kernel_rfl) 12 (by kernel_rfl) (by kernel_rfl) (fun _ _ _ h => h) (by kernel_rfl) (by kernel_rfl) (by kernel_rfl) (by kernel_rfl) (Or.inl ⟨by rfl, fun w hSw => (by go_simp; try with_reducible rfl)⟩) (by with_reducible exact HD.out) ?_
            try simp only [Act.put, List.setIfInBounds_toArray, List.set_cons_zero, List.set_cons_succ]
            refine anyU_take2 (i := 15) (v := .slice B n b) (by simp only [List.getElem?_toArray, List.getElem?_cons_succ, List.getElem?_cons_zero]; exact rfl) (by kernel_rfl) 12 (by kernel_rfl) (by kernel_rfl) (fun _ _ _ h => h) (by kernel_rfl) (by kernel_rfl) (by kernel_rfl) (by kernel_rfl) (Or.inl ⟨by rfl, fun w hSw => (by have x0 := (SY.out.below hSw).row.cell 1; change w.cell? ⟨g, 1, none⟩ = some (.slice B n b) at x0; go_simp; try with_reducible rfl)⟩) (by with_reducible exact HD.out) ?_
            try simp only [Act.put, List.setIfInBounds_toArray, List.set_cons_zero, List.set_cons_succ]
            refine anyU_take2 (i := 16) (v := .int .i64 (p : Nat)) (by simp only [List.getElem?_toArray, List.getElem?_cons_succ, List.getElem?_cons_zero]; exact rfl) (by kernel_rfl) 12 (by kernel_rfl) (by kernel_rfl) (fun _ _ _ h => h) (by kernel_rfl) (by kernel_rfl) (by kernel_rfl) (by kernel_rfl) (Or.inl ⟨by rfl, fun w hSw => (by go_simp; try with_reducible rfl)⟩) (by with_reducible exact HD.out) ?_
            try simp only [Act.put, List.setIfInBounds_toArray, List.set_cons_zero, List.set_cons_succ]
            refine anyU_take2 (i := 17) (v := .slice (partV 21 B b p) (n - p) (b - p)) (by simp only [List.getElem?_toArray, List.getElem?_cons_succ, List.getElem?_cons_zero]; exact rfl) (by kernel_rfl) 12 (by kernel_rfl) (by kernel_rfl) (fun _ _ _ h => h) (by kernel_rfl) (by kernel_rfl) (by kernel_rfl) (by kernel_rfl) (Or.inl ⟨by rfl, fun w hSw => (by go_simp; try with_reducible rfl)⟩) (by with_reducible exact HD.out) ?_
            try simp only [Act.put, List.setIfInBounds_toArray, List.set_cons_zero, List.set_cons_succ]
            clear hpv
            refine anyU_two (i := 1) (j := 10) (by kernel_rfl) (by simp only [List.getElem?_toArray, List.getElem?_cons_succ, List.getElem?_cons_zero]; exact rfl) (by simp only [List.getElem?_toArray, List.getElem?_cons_succ, List.getElem?_cons_zero]; exact rfl) (fun K hK => ?_) (fun K hK => ?_)
            · skip
              refine step_lit0 (lit0_cell _) ?_
              have HV := hide (rw_lit0 wt.heap.size 37 21 wd HD.out.size)
              have HD := hide (kept_alloc HD.out (.cells #[] 37))
              refine hK.out _ _ (fun _ _ => HD.out) ?_
              clear hK K
              try simp only [Act.put, List.setIfInBounds_toArray, List.set_cons_zero, List.set_cons_succ]
              generalize wd.alloc (.cells #[] 37) = wv29 at HV HD ⊢
              generalize wd.heap.size = gb29 at HV ⊢
              refine anyU_two (i := 8) (j := 10) (by kernel_rfl) (by simp only [List.getElem?_toArray, List.getElem?_cons_succ, List.getElem?_cons_zero]; exact rfl) (by simp only [List.getElem?_toArray, List.getElem?_cons_succ, List.getElem?_cons_zero]; exact rfl) (fun K hK => ?_) (fun K hK => ?_)
              · skip
                refine step_append_rw elm_cell (by decide) rfl HV.out rfl (fun x hx => (cV_all L8.out) x (List.mem_of_mem_take hx)) (HLT.out) hB0 ((HEC.out _ HD.out).take p) (by simp only [List.length_nil]; omega) HD.out.size ?_
                intro v1 wv30 hr hg
                have HD := hide (below_grow HD.out HV.out hg)
                have HV := hide hr
                clear hr hg
                rw [List.nil_append] at HV
                refine hK.out _ _ (fun _ _ => HD.out) ?_
                clear hK K
                try simp only [Act.put, List.setIfInBounds_toArray, List.set_cons_zero, List.set_cons_succ]
                refine anyU_one (i := 10) (by kernel_rfl) (by simp only [List.getElem?_toArray, List.getElem?_cons_succ, List.getElem?_cons_zero]; exact rfl) (fun K hK => ?_)
                refine step_lit1 rfl (lit_cell_l h8 _) ?_
                have HZ := hide (Row.new wv30 37 c.l.toArray)
                have HV := hide (HV.out.alloc (.cells c.l.toArray 37))
                have HD := hide (kept_alloc HD.out (.cells c.l.toArray 37))
                refine hK.out _ _ (fun _ _ => HD.out) ?_
                clear hK K
                try simp only [Act.put, List.setIfInBounds_toArray, List.set_cons_zero, List.set_cons_succ]
                generalize wv30.alloc (.cells c.l.toArray 37) = wv31 at HV HZ HD ⊢
                generalize wv30.heap.size = gz31 at HZ ⊢
                refine anyU_one (i := 11) (by kernel_rfl) (by simp only [List.getElem?_toArray, List.getElem?_cons_succ, List.getElem?_cons_zero]; exact rfl) (fun K hK => ?_)
                refine step_append_rw elm_cell (by decide) rfl HV.out rfl (fun x hx => by rw [List.mem_singleton.1 hx]; exact ⟨(Cl.len h8), (one_cl c)⟩) rfl (fun h => by cases h) (els_lit HZ.out (Cl.len h8) (one_cl c)) (by rw [HLT.out]; omega) HD.out.size ?_
                intro v2 wv32 hr hg
                have HD := hide (below_grow HD.out HV.out hg)
                have HV := hide hr
                clear hr hg
                refine hK.out _ _ (fun _ _ => HD.out) ?_
                clear hK K
                try simp only [Act.put, List.setIfInBounds_toArray, List.set_cons_zero, List.set_cons_succ]
                refine anyU_one (i := 18) (by kernel_rfl) (by simp only [List.getElem?_toArray, List.getElem?_cons_succ, List.getElem?_cons_zero]; exact rfl) (fun K hK => ?_)
                refine step_append_rw elm_cell (by decide) rfl HV.out rfl (fun x hx => (cV_all L8.out) x (List.mem_of_mem_drop hx)) HLD.out (fun h => partV_none hB0 h) ((HEC.out _ HD.out).rest HLC.out p) (by rw [List.length_append, HLT.out]; simp only [List.length_cons, List.length_nil]; omega) HD.out.size ?_
                intro v3 wv33 hr hg
                have HD := hide (below_grow HD.out HV.out hg)
                have HV := hide hr
                clear hr hg
                refine hK.out _ _ (fun _ _ => HD.out) ?_
                clear hK K
                try simp only [Act.put, List.setIfInBounds_toArray, List.set_cons_zero, List.set_cons_succ]
                have HV := hide (show Rw wt.heap.size 37 21 wv33 v3 (cV (k.take p ++ ([⟨(i1, i2), c⟩] ++ k.drop p))) from by rw [← cV_mid]; exact HV.out)
                obtain ⟨B3, b4, hy, -⟩ := els_own_form HV.out
                generalize (cV (k.take p ++ ([⟨(i1, i2), c⟩] ++ k.drop p))).length = m4 at hy
                subst hy
                have SY := hide (SY.out.below HD.out)
                have x0 := SY.out.row.cell 1
                have f0 := SY.out.row.free 1
                change wv33.cell? ⟨g, 1, none⟩ = some (.slice B n b) at x0
                refine anyU_take2 (i := 19) (v := .pointer (some ⟨g, 0, none⟩)) (by simp only [List.getElem?_toArray, List.getElem?_cons_succ, List.getElem?_cons_zero]; exact rfl) (by kernel_rfl) 12 (by kernel_rfl) (by kernel_rfl) (fun _ _ _ h => h) (by kernel_rfl) (by kernel_rfl) (by kernel_rfl) (by kernel_rfl) (Or.inl ⟨by rfl, fun w hSw => (by go_simp; try with_reducible rfl)⟩) (by with_reducible exact HD.out) ?_
                try simp only [Act.put, List.setIfInBounds_toArray, List.set_cons_zero, List.set_cons_succ]
                refine anyU_take2 (i := 20) (v := .pointer (some ⟨g, 1, none⟩)) (by simp only [List.getElem?_toArray, List.getElem?_cons_succ, List.getElem?_cons_zero]; exact rfl) (by kernel_rfl) 12 (by kernel_rfl) (by kernel_rfl) (fun _ _ _ h => h) (by kernel_rfl) (by kernel_rfl) (by kernel_rfl) (by kernel_rfl) (Or.inl ⟨by rfl, fun w hSw => (by go_simp; try with_reducible rfl)⟩) (by with_reducible exact HD.out) ?_
                try simp only [Act.put, List.setIfInBounds_toArray, List.set_cons_zero, List.set_cons_succ]
                refine anyU_one (i := 21) (by kernel_rfl) (by simp only [List.getElem?_toArray, List.getElem?_cons_succ, List.getElem?_cons_zero]; exact rfl) (fun K hK => ?_)
                try go_simp
                refine hK.out _ _ (fun e _ => absurd rfl e) ?_
                clear hK K
                try simp only [Act.put]
                refine anyU_done (by kernel_rfl) ?_
                refine NoPanic.normal ?_
                try simp only [Act.put]
                clear x0 f0
                have HZZ := hide (SY.out.fin HV.out HBW.out D7.out L8.out h8)
                go_wp2
                go_ret
                exact ⟨by rw [HM.out]; rfl, ⟨_, _, by rw [set_yes HM.out]; show Ro base _ g _ _ (putL k (i1, i2) c) d; rw [HP.out]; exact HZZ.out.1⟩, HZZ.out.2.mono fun b h => .inl h⟩
              · skip
                refine step_lit1 rfl (lit_cell_l h8 _) ?_
                have HZ := hide (Row.new wv29 37 c.l.toArray)
                have HNE := hide (show some wv29.heap.size ≠ some gb29 from fun e => by injection e with e; have := (HV.out.lt gb29 rfl).2; omega)
                have HV := hide (HV.out.alloc (.cells c.l.toArray 37))
                have HD := hide (kept_alloc HD.out (.cells c.l.toArray 37))
                refine hK.out _ _ (fun _ _ => HD.out) ?_
                clear hK K
                try simp only [Act.put, List.setIfInBounds_toArray, List.set_cons_zero, List.set_cons_succ]
                generalize wv29.alloc (.cells c.l.toArray 37) = wv34 at HV HZ HD ⊢
                generalize wv29.heap.size = gz34 at HZ HNE ⊢
                refine anyU_one (i := 8) (by kernel_rfl) (by simp only [List.getElem?_toArray, List.getElem?_cons_succ, List.getElem?_cons_zero]; exact rfl) (fun K hK => ?_)
                refine step_append_rw elm_cell (by decide) rfl HV.out rfl (fun x hx => (cV_all L8.out) x (List.mem_of_mem_take hx)) (HLT.out) hB0 ((HEC.out _ HD.out).take p) (by simp only [List.length_nil]; omega) HD.out.size ?_
                intro v1 wv35 hr hg
                have HZ := hide (HZ.out.grown hg HNE.out)
                have HD := hide (below_grow HD.out HV.out hg)
                have HV := hide hr
                clear hr hg
                rw [List.nil_append] at HV
                refine hK.out _ _ (fun _ _ => HD.out) ?_
                clear hK K
                try simp only [Act.put, List.setIfInBounds_toArray, List.set_cons_zero, List.set_cons_succ]
                refine anyU_one (i := 11) (by kernel_rfl) (by simp only [List.getElem?_toArray, List.getElem?_cons_succ, List.getElem?_cons_zero]; exact rfl) (fun K hK => ?_)
                refine step_append_rw elm_cell (by decide) rfl HV.out rfl (fun x hx => by rw [List.mem_singleton.1 hx]; exact ⟨(Cl.len h8), (one_cl c)⟩) rfl (fun h => by cases h) (els_lit HZ.out (Cl.len h8) (one_cl c)) (by rw [HLT.out]; omega) HD.out.size ?_
                intro v2 wv36 hr hg
                have HD := hide (below_grow HD.out HV.out hg)
                have HV := hide hr
                clear hr hg
                refine hK.out _ _ (fun _ _ => HD.out) ?_
                clear hK K
                try simp only [Act.put, List.setIfInBounds_toArray, List.set_cons_zero, List.set_cons_succ]
                refine anyU_one (i := 18) (by kernel_rfl) (by simp only [List.getElem?_toArray, List.getElem?_cons_succ, List.getElem?_cons_zero]; exact rfl) (fun K hK => ?_)
                refine step_append_rw elm_cell (by decide) rfl HV.out rfl (fun x hx => (cV_all L8.out) x (List.mem_of_mem_drop hx)) HLD.out (fun h => partV_none hB0 h) ((HEC.out _ HD.out).rest HLC.out p) (by rw [List.length_append, HLT.out]; simp only [List.length_cons, List.length_nil]; omega) HD.out.size ?_
                intro v3 wv37 hr hg
                have HD := hide (below_grow HD.out HV.out hg)
                have HV := hide hr
                clear hr hg
                refine hK.out _ _ (fun _ _ => HD.out) ?_
                clear hK K
                try simp only [Act.put, List.setIfInBounds_toArray, List.set_cons_zero, List.set_cons_succ]
                have HV := hide (show Rw wt.heap.size 37 21 wv37 v3 (cV (k.take p ++ ([⟨(i1, i2), c⟩] ++ k.drop p))) from by rw [← cV_mid]; exact HV.out)
                obtain ⟨B3, b4, hy, -⟩ := els_own_form HV.out
                generalize (cV (k.take p ++ ([⟨(i1, i2), c⟩] ++ k.drop p))).length = m4 at hy
                subst hy
                have SY := hide (SY.out.below HD.out)
                have x0 := SY.out.row.cell 1
                have f0 := SY.out.row.free 1
                change wv37.cell? ⟨g, 1, none⟩ = some (.slice B n b) at x0
                refine anyU_take2 (i := 19) (v := .pointer (some ⟨g, 0, none⟩)) (by simp only [List.getElem?_toArray, List.getElem?_cons_succ, List.getElem?_cons_zero]; exact rfl) (by kernel_rfl) 12 (by kernel_rfl) (by kernel_rfl) (fun _ _ _ h => h) (by kernel_rfl) (by kernel_rfl) (by kernel_rfl) (by kernel_rfl) (Or.inl ⟨by rfl, fun w hSw => (by go_simp; try with_reducible rfl)⟩) (by with_reducible exact HD.out) ?_
                try simp only [Act.put, List.setIfInBounds_toArray, List.set_cons_zero, List.set_cons_succ]
                refine anyU_take2 (i := 20) (v := .pointer (some ⟨g, 1, none⟩)) (by simp only [List.getElem?_toArray, List.getElem?_cons_succ, List.getElem?_cons_zero]; exact rfl) (by kernel_rfl) 12 (by kernel_rfl) (by kernel_rfl) (fun _ _ _ h => h) (by kernel_rfl) (by kernel_rfl) (by kernel_rfl) (by kernel_rfl) (Or.inl ⟨by rfl, fun w hSw => (by go_simp; try with_reducible rfl)⟩) (by with_reducible exact HD.out) ?_
                try simp only [Act.put, List.setIfInBounds_toArray, List.set_cons_zero, List.set_cons_succ]
                refine anyU_one (i := 21) (by kernel_rfl) (by simp only [List.getElem?_toArray, List.getElem?_cons_succ, List.getElem?_cons_zero]; exact rfl) (fun K hK => ?_)
                try go_simp
                refine hK.out _ _ (fun e _ => absurd rfl e) ?_
                clear hK K
                try simp only [Act.put]
                refine anyU_done (by kernel_rfl) ?_
                refine NoPanic.normal ?_
                try simp only [Act.put]
                clear x0 f0
                have HZZ := hide (SY.out.fin HV.out HBW.out D7.out L8.out h8)
                go_wp2
                go_ret
                exact ⟨by rw [HM.out]; rfl, ⟨_, _, by rw [set_yes HM.out]; show Ro base _ g _ _ (putL k (i1, i2) c) d; rw [HP.out]; exact HZZ.out.1⟩, HZZ.out.2.mono fun b h => .inl h⟩
            · skip
              refine step_lit1 rfl (lit_cell_l h8 _) ?_
              have HZ := hide (Row.new wd 37 c.l.toArray)
              have HD := hide (kept_alloc HD.out (.cells c.l.toArray 37))
              refine hK.out _ _ (fun _ _ => HD.out) ?_
              clear hK K
              try simp only [Act.put, List.setIfInBounds_toArray, List.set_cons_zero, List.set_cons_succ]
              generalize wd.alloc (.cells c.l.toArray 37) = wv38 at HZ HD ⊢
              generalize wd.heap.size = gz38 at HZ ⊢
              refine anyU_one (i := 1) (by kernel_rfl) (by simp only [List.getElem?_toArray, List.getElem?_cons_succ, List.getElem?_cons_zero]; exact rfl) (fun K hK => ?_)
              refine step_lit0 (lit0_cell _) ?_
              have HV := hide (rw_lit0 wt.heap.size 37 21 wv38 HD.out.size)
              have HNE := hide (show some gz38 ≠ some wv38.heap.size from fun e => by injection e with e; have := HZ.out.lt; omega)
              have HZ := hide (HZ.out.alloc (.cells #[] 37))
              have HD := hide (kept_alloc HD.out (.cells #[] 37))
              refine hK.out _ _ (fun _ _ => HD.out) ?_
              clear hK K
              try simp only [Act.put, List.setIfInBounds_toArray, List.set_cons_zero, List.set_cons_succ]
              generalize wv38.alloc (.cells #[] 37) = wv39 at HV HD HZ ⊢
              generalize wv38.heap.size = gb39 at HV HNE ⊢
              refine anyU_one (i := 8) (by kernel_rfl) (by simp only [List.getElem?_toArray, List.getElem?_cons_succ, List.getElem?_cons_zero]; exact rfl) (fun K hK => ?_)
              refine step_append_rw elm_cell (by decide) rfl HV.out rfl (fun x hx => (cV_all L8.out) x (List.mem_of_mem_take hx)) (HLT.out) hB0 ((HEC.out _ HD.out).take p) (by simp only [List.length_nil]; omega) HD.out.size ?_
              intro v1 wv40 hr hg
              have HZ := hide (HZ.out.grown hg HNE.out)
              have HD := hide (below_grow HD.out HV.out hg)
              have HV := hide hr
              clear hr hg
              rw [List.nil_append] at HV
              refine hK.out _ _ (fun _ _ => HD.out) ?_
              clear hK K
              try simp only [Act.put, List.setIfInBounds_toArray, List.set_cons_zero, List.set_cons_succ]
              refine anyU_one (i := 11) (by kernel_rfl) (by simp only [List.getElem?_toArray, List.getElem?_cons_succ, List.getElem?_cons_zero]; exact rfl) (fun K hK => ?_)
              refine step_append_rw elm_cell (by decide) rfl HV.out rfl (fun x hx => by rw [List.mem_singleton.1 hx]; exact ⟨(Cl.len h8), (one_cl c)⟩) rfl (fun h => by cases h) (els_lit HZ.out (Cl.len h8) (one_cl c)) (by rw [HLT.out]; omega) HD.out.size ?_
              intro v2 wv41 hr hg
              have HD := hide (below_grow HD.out HV.out hg)
              have HV := hide hr
              clear hr hg
              refine hK.out _ _ (fun _ _ => HD.out) ?_
              clear hK K
              try simp only [Act.put, List.setIfInBounds_toArray, List.set_cons_zero, List.set_cons_succ]
              refine anyU_one (i := 18) (by kernel_rfl) (by simp only [List.getElem?_toArray, List.getElem?_cons_succ, List.getElem?_cons_zero]; exact rfl) (fun K hK => ?_)
              refine step_append_rw elm_cell (by decide) rfl HV.out rfl (fun x hx => (cV_all L8.out) x (List.mem_of_mem_drop hx)) HLD.out (fun h => partV_none hB0 h) ((HEC.out _ HD.out).rest HLC.out p) (by rw [List.length_append, HLT.out]; simp only [List.length_cons, List.length_nil]; omega) HD.out.size ?_
              intro v3 wv42 hr hg
              have HD := hide (below_grow HD.out HV.out hg)
              have HV := hide hr
              clear hr hg
              refine hK.out _ _ (fun _ _ => HD.out) ?_
              clear hK K
              try simp only [Act.put, List.setIfInBounds_toArray, List.set_cons_zero, List.set_cons_succ]
              have HV := hide (show Rw wt.heap.size 37 21 wv42 v3 (cV (k.take p ++ ([⟨(i1, i2), c⟩] ++ k.drop p))) from by rw [← cV_mid]; exact HV.out)
              obtain ⟨B3, b4, hy, -⟩ := els_own_form HV.out
              generalize (cV (k.take p ++ ([⟨(i1, i2), c⟩] ++ k.drop p))).length = m4 at hy
              subst hy
              have SY := hide (SY.out.below HD.out)
              have x0 := SY.out.row.cell 1
              have f0 := SY.out.row.free 1
              change wv42.cell? ⟨g, 1, none⟩ = some (.slice B n b) at x0
              refine anyU_take2 (i := 19) (v := .pointer (some ⟨g, 0, none⟩)) (by simp only [List.getElem?_toArray, List.getElem?_cons_succ, List.getElem?_cons_zero]; exact rfl) (by kernel_rfl) 12 (by kernel_rfl) (by kernel_rfl) (fun _ _ _ h => h) (by kernel_rfl) (by kernel_rfl) (by kernel_rfl) (by kernel_rfl) (Or.inl ⟨by rfl, fun w hSw => (by go_simp; try with_reducible rfl)⟩) (by with_reducible exact HD.out) ?_
              try simp only [Act.put, List.setIfInBounds_toArray, List.set_cons_zero, List.set_cons_succ]
              refine anyU_take2 (i := 20) (v := .pointer (some ⟨g, 1, none⟩)) (by simp only [List.getElem?_toArray, List.getElem?_cons_succ, List.getElem?_cons_zero]; exact rfl) (by kernel_rfl) 12 (by kernel_rfl) (by kernel_rfl) (fun _ _ _ h => h) (by kernel_rfl) (by kernel_rfl) (by kernel_rfl) (by kernel_rfl) (Or.inl ⟨by rfl, fun w hSw => (by go_simp; try with_reducible rfl)⟩) (by with_reducible exact HD.out) ?_
              try simp only [Act.put, List.setIfInBounds_toArray, List.set_cons_zero, List.set_cons_succ]
              refine anyU_one (i := 21) (by kernel_rfl) (by simp only [List.getElem?_toArray, List.getElem?_cons_succ, List.getElem?_cons_zero]; exact rfl) (fun K hK => ?_)
              try go_simp
              refine hK.out _ _ (fun e _ => absurd rfl e) ?_
              clear hK K
              try simp only [Act.put]
              refine anyU_done (by kernel_rfl) ?_
              refine NoPanic.normal ?_
              try simp only [Act.put]
              clear x0 f0
              have HZZ := hide (SY.out.fin HV.out HBW.out D7.out L8.out h8)
              go_wp2
              go_ret
              exact ⟨by rw [HM.out]; rfl, ⟨_, _, by rw [set_yes HM.out]; show Ro base _ g _ _ (putL k (i1, i2) c) d; rw [HP.out]; exact HZZ.out.1⟩, HZZ.out.2.mono fun b h => .inl h⟩
        · obtain ⟨e, he, hei, hce⟩ := cell_here up hh
          simp only [hh] at HA
          have l8 := h.l8 e (List.mem_of_getElem? he)
          have hM : maySet ⟨k, d⟩ (i1, i2) c = overL e.c c := by
            cases ho : overL e.c c
            · cases hm : maySet ⟨k, d⟩ (i1, i2) c
              · rfl
              · have := (may_parts hm).2.2.2 e.c hce
                rw [ho] at this; cases this
            · exact may_mk q1 q2 q3 fun was hw => by rw [hce] at hw; cases hw; exact ho
          have HM := hide hM
          have hP : putL k (i1, i2) c = k.set (posL k (i1, i2)) ⟨(i1, i2), c⟩ := by unfold putL; rw [hh]; rfl
          have HI := hide hei
          obtain ⟨gI, gC, rfl, rfl, _⟩ := h.at_ he
          have hpn := (List.getElem?_eq_some_iff.1 he).1
          generalize posL k (i1, i2) = p at he hpn HA hP
          have HP := hide hP
          have HE := hide he
          have HX := hide (fun w' (h : Ro base w' g (.slice (some ⟨gI, 0, none⟩) k.length a) (.slice (some ⟨gC, 0, none⟩) k.length b) k d) => (show w'.rangeAt gC (p * 21) e.c.l from by
            obtain ⟨x, y, e1, e2, _, _, r, _⟩ := h.at_ HE.out
            cases e1
            cases e2
            exact r))
          clear h hh he hce hei hM hP q1 q2 q3 HN up
          obtain ⟨n, hn⟩ : ∃ n, k.length = n := ⟨_, rfl⟩
          have HNN := hide hn
          rw [hn] at H0 HG HA HX ha hb2 hpn hl C0
          have hpi : (p : Int) < (n : Int) := by omega
          have hpb : p < b := by omega
          clear hn
          go_enter Try.func17, Try.ntmps17
          go_upto_region 1 with (fail)
          generalize (w.alloc (.cells #[.int .i64 i1, .int .i64 i2] 28)).alloc (.cells (clC c) 37) = w1 at H0 ⊢
          obtain ⟨c0, c1⟩ := C0.out _ H0.out
          go_upto_region 5 with (first
            | ((with_reducible refine wpList_load_ce h8 ?_ ?_ H0.out.bc.all ?_); rfl; rfl)
            | (go_at_call 36; (with_reducible refine (HR.out _).mono ?_); rintro e w2 ⟨rfl, hb2⟩; have H0 := hide (H0.out.kept hb2); obtain ⟨c0, c1⟩ := C0.out _ H0.out; clear hb2)
            | (go_at_call 20; (with_reducible refine (HG.out _ H0.out.ro).mono ?_); rintro e w3 ⟨rfl, hb2⟩; have H0 := hide (H0.out.kept hb2); obtain ⟨c0, c1⟩ := C0.out _ H0.out; clear hb2)
            | (go_at_call 37; (with_reducible refine (HC.out _).mono ?_); rintro e w4 ⟨rfl, hb2⟩; have H0 := hide (H0.out.kept hb2); obtain ⟨c0, c1⟩ := C0.out _ H0.out; clear hb2)
            | (go_at_call 38; (with_reducible refine (HA.out _ H0.out.ro).mono ?_); rintro e w5 ⟨rfl, hb2⟩; have H0 := hide (H0.out.kept hb2); obtain ⟨c0, c1⟩ := C0.out _ H0.out; clear hb2))
          have z1 := H0.out.ro.c1
          go_upto_region 6 with (first
            | ((with_reducible refine wpList_load_ce l8 ?_ ?_ (HX.out _ H0.out.ro) ?_); rfl; rfl)
            | ((with_reducible refine wpList_store_new (vs := clC e.c) ?_ ?_ (ce_allc _) ?_ ?_ ?_); (rw [clC_size l8]; exact ce_info); exact (clC_size l8).symm; rfl; rfl))
          try simp only [Act.put]
          clear c0 c1 z1
          have HW := hide (CeAt.new l8 w5 37)
          have H0 := hide (H0.out.kept (kept_alloc (kept_refl w5) (.cells (clC e.c) 37)))
          generalize w5.alloc (.cells (clC e.c) 37) = w6 at H0 HW ⊢
          generalize w5.heap.size = bw at HW ⊢
          have HB1 := hide (fun w => refbelow_any c.p.1 c.p.2 e.c.p.1 e.c.p.2 w)
          have HB2 := hide (fun w => refbelow_any c.v.1 c.v.2 e.c.v.1 e.c.v.2 w)
          have HE3 := hide (fun w => neq_cm c.c e.c.c w)
          have HE4 := hide (fun w => neq_at h8 l8 w)
          have HE8 := hide (fun w => eql_bal c.v e.c.v w)
          go_cut [86] (fun s86 wx => s86 = .bool (!overL e.c c) ∧ Sz base w wx g (.slice (some ⟨gI, 0, none⟩) n a) (.slice (some ⟨gC, 0, none⟩) n b) k d i1 i2 c)
          case first =>
            have s1 := HW.out.st
            have s2 := H0.out.bc.st

            replace HB1 : Hid (∀ w, Calls Try.prog 39 #[.agg #[.int .i64 c.p.1, .int .i64 c.p.2], .agg #[.int .i64 e.c.p.1, .int .i64 e.c.p.2]] w fun x w' => x = .returned (.bool (ltP c.p e.c.p)) ∧ Below w.heap.size w w') := HB1
            replace HB2 : Hid (∀ w, Calls Try.prog 39 #[.agg #[.int .i64 c.v.1, .int .i64 c.v.2], .agg #[.int .i64 e.c.v.1, .int .i64 e.c.v.2]] w fun x w' => x = .returned (.bool (ltP c.v e.c.v)) ∧ Below w.heap.size w w') := HB2
            cases x1 : (e.c.st == 3)
            · skip
              cases x5 : ltP c.p e.c.p
              · cases x6 : ltP c.v e.c.v
                · by_cases x7 : c.st < e.c.st
                  · cases x8 : sameP c.v e.c.v
                    · skip
                      have hv : (!overL e.c c) = false := by unfold overL; simp [x1, x5, x6, x7, x8]
                      have HV := hide hv
                      simp only [x5] at HB1
                      simp only [x6] at HB2
                      have y7 := x7
                      simp only [x8] at HE8; have he8 := HE8.out; clear HE8
                      clear hv
                      go_wp2_with (first
                        | ((with_reducible refine wpList_load_cm ?_ ?_ H0.out.bc.c ?_); rfl; rfl)
                        | ((with_reducible refine wpList_load_cm ?_ ?_ HW.out.c ?_); rfl; rfl)
                        | ((with_reducible refine wpList_load_at h8 ?_ ?_ H0.out.bc.a ?_); rfl; rfl)
                        | ((with_reducible refine wpList_load_at l8 ?_ ?_ HW.out.a ?_); rfl; rfl)
                        | ((with_reducible refine wpList_load_bal ?_ ?_ H0.out.bc.p ?_); rfl; rfl)
                        | ((with_reducible refine wpList_load_bal ?_ ?_ H0.out.bc.v ?_); rfl; rfl)
                        | ((with_reducible refine wpList_load_bal ?_ ?_ HW.out.p ?_); rfl; rfl)
                        | ((with_reducible refine wpList_load_bal ?_ ?_ HW.out.v ?_); rfl; rfl)
                        | (go_at_call 39; (with_reducible refine (HB1.out _).mono ?_); rintro x w7 ⟨rfl, hb3⟩; have H0 := hide (H0.out.kept hb3); have HW := hide (HW.out.kept hb3); have s1 := HW.out.st; have s2 := H0.out.bc.st; clear hb3)
                        | (go_at_call 39; (with_reducible refine (HB2.out _).mono ?_); rintro x w8 ⟨rfl, hb3⟩; have H0 := hide (H0.out.kept hb3); have HW := hide (HW.out.kept hb3); have s1 := HW.out.st; have s2 := H0.out.bc.st; clear hb3))
                      go_meet
                      exact ⟨by rw [HV.out], H0.out⟩
                    · skip
                      have hv : (!overL e.c c) = true := by unfold overL; simp [x1, x5, x6, x7, x8]
                      have HV := hide hv
                      simp only [x5] at HB1
                      simp only [x6] at HB2
                      have y7 := x7
                      simp only [x8] at HE8; have he8 := HE8.out; clear HE8
                      clear hv
                      go_wp2_with (first
                        | ((with_reducible refine wpList_load_cm ?_ ?_ H0.out.bc.c ?_); rfl; rfl)
                        | ((with_reducible refine wpList_load_cm ?_ ?_ HW.out.c ?_); rfl; rfl)
                        | ((with_reducible refine wpList_load_at h8 ?_ ?_ H0.out.bc.a ?_); rfl; rfl)
                        | ((with_reducible refine wpList_load_at l8 ?_ ?_ HW.out.a ?_); rfl; rfl)
                        | ((with_reducible refine wpList_load_bal ?_ ?_ H0.out.bc.p ?_); rfl; rfl)
                        | ((with_reducible refine wpList_load_bal ?_ ?_ H0.out.bc.v ?_); rfl; rfl)
                        | ((with_reducible refine wpList_load_bal ?_ ?_ HW.out.p ?_); rfl; rfl)
                        | ((with_reducible refine wpList_load_bal ?_ ?_ HW.out.v ?_); rfl; rfl)
                        | (go_at_call 39; (with_reducible refine (HB1.out _).mono ?_); rintro x w7 ⟨rfl, hb3⟩; have H0 := hide (H0.out.kept hb3); have HW := hide (HW.out.kept hb3); have s1 := HW.out.st; have s2 := H0.out.bc.st; clear hb3)
                        | (go_at_call 39; (with_reducible refine (HB2.out _).mono ?_); rintro x w8 ⟨rfl, hb3⟩; have H0 := hide (H0.out.kept hb3); have HW := hide (HW.out.kept hb3); have s1 := HW.out.st; have s2 := H0.out.bc.st; clear hb3))
                      go_meet
                      exact ⟨by rw [HV.out], H0.out⟩
                  · skip
                    have hv : (!overL e.c c) = false := by unfold overL; simp [x1, x5, x6, x7]
                    have HV := hide hv
                    simp only [x5] at HB1
                    simp only [x6] at HB2
                    have y7 := x7
                    clear hv
                    go_wp2_with (first
                      | ((with_reducible refine wpList_load_cm ?_ ?_ H0.out.bc.c ?_); rfl; rfl)
                      | ((with_reducible refine wpList_load_cm ?_ ?_ HW.out.c ?_); rfl; rfl)
                      | ((with_reducible refine wpList_load_at h8 ?_ ?_ H0.out.bc.a ?_); rfl; rfl)
                      | ((with_reducible refine wpList_load_at l8 ?_ ?_ HW.out.a ?_); rfl; rfl)
                      | ((with_reducible refine wpList_load_bal ?_ ?_ H0.out.bc.p ?_); rfl; rfl)
                      | ((with_reducible refine wpList_load_bal ?_ ?_ H0.out.bc.v ?_); rfl; rfl)
                      | ((with_reducible refine wpList_load_bal ?_ ?_ HW.out.p ?_); rfl; rfl)
                      | ((with_reducible refine wpList_load_bal ?_ ?_ HW.out.v ?_); rfl; rfl)
                      | (go_at_call 39; (with_reducible refine (HB1.out _).mono ?_); rintro x w7 ⟨rfl, hb3⟩; have H0 := hide (H0.out.kept hb3); have HW := hide (HW.out.kept hb3); have s1 := HW.out.st; have s2 := H0.out.bc.st; clear hb3)
                      | (go_at_call 39; (with_reducible refine (HB2.out _).mono ?_); rintro x w8 ⟨rfl, hb3⟩; have H0 := hide (H0.out.kept hb3); have HW := hide (HW.out.kept hb3); have s1 := HW.out.st; have s2 := H0.out.bc.st; clear hb3))
                    go_meet
                    exact ⟨by rw [HV.out], H0.out⟩
                · skip
                  have hv : (!overL e.c c) = true := by unfold overL; simp [x1, x5, x6]
                  have HV := hide hv
                  simp only [x5] at HB1
                  simp only [x6] at HB2
                  clear hv
                  go_wp2_with (first
                    | ((with_reducible refine wpList_load_cm ?_ ?_ H0.out.bc.c ?_); rfl; rfl)
                    | ((with_reducible refine wpList_load_cm ?_ ?_ HW.out.c ?_); rfl; rfl)
                    | ((with_reducible refine wpList_load_at h8 ?_ ?_ H0.out.bc.a ?_); rfl; rfl)
                    | ((with_reducible refine wpList_load_at l8 ?_ ?_ HW.out.a ?_); rfl; rfl)
                    | ((with_reducible refine wpList_load_bal ?_ ?_ H0.out.bc.p ?_); rfl; rfl)
                    | ((with_reducible refine wpList_load_bal ?_ ?_ H0.out.bc.v ?_); rfl; rfl)
                    | ((with_reducible refine wpList_load_bal ?_ ?_ HW.out.p ?_); rfl; rfl)
                    | ((with_reducible refine wpList_load_bal ?_ ?_ HW.out.v ?_); rfl; rfl)
                    | (go_at_call 39; (with_reducible refine (HB1.out _).mono ?_); rintro x w7 ⟨rfl, hb3⟩; have H0 := hide (H0.out.kept hb3); have HW := hide (HW.out.kept hb3); have s1 := HW.out.st; have s2 := H0.out.bc.st; clear hb3)
                    | (go_at_call 39; (with_reducible refine (HB2.out _).mono ?_); rintro x w8 ⟨rfl, hb3⟩; have H0 := hide (H0.out.kept hb3); have HW := hide (HW.out.kept hb3); have s1 := HW.out.st; have s2 := H0.out.bc.st; clear hb3))
                  go_meet
                  exact ⟨by rw [HV.out], H0.out⟩
              · skip
                have hv : (!overL e.c c) = true := by unfold overL; simp [x1, x5]
                have HV := hide hv
                simp only [x5] at HB1
                clear hv
                go_wp2_with (first
                  | ((with_reducible refine wpList_load_cm ?_ ?_ H0.out.bc.c ?_); rfl; rfl)
                  | ((with_reducible refine wpList_load_cm ?_ ?_ HW.out.c ?_); rfl; rfl)
                  | ((with_reducible refine wpList_load_at h8 ?_ ?_ H0.out.bc.a ?_); rfl; rfl)
                  | ((with_reducible refine wpList_load_at l8 ?_ ?_ HW.out.a ?_); rfl; rfl)
                  | ((with_reducible refine wpList_load_bal ?_ ?_ H0.out.bc.p ?_); rfl; rfl)
                  | ((with_reducible refine wpList_load_bal ?_ ?_ H0.out.bc.v ?_); rfl; rfl)
                  | ((with_reducible refine wpList_load_bal ?_ ?_ HW.out.p ?_); rfl; rfl)
                  | ((with_reducible refine wpList_load_bal ?_ ?_ HW.out.v ?_); rfl; rfl)
                  | (go_at_call 39; (with_reducible refine (HB1.out _).mono ?_); rintro x w7 ⟨rfl, hb3⟩; have H0 := hide (H0.out.kept hb3); have HW := hide (HW.out.kept hb3); have s1 := HW.out.st; have s2 := H0.out.bc.st; clear hb3)
                  | (go_at_call 39; (with_reducible refine (HB2.out _).mono ?_); rintro x w8 ⟨rfl, hb3⟩; have H0 := hide (H0.out.kept hb3); have HW := hide (HW.out.kept hb3); have s1 := HW.out.st; have s2 := H0.out.bc.st; clear hb3))
                go_meet
                exact ⟨by rw [HV.out], H0.out⟩
            · cases x2 : (c.st != 3)
              · have x2' : (c.st == 3) = true := by simpa using x2
                cases x3 : sameC c.c e.c.c
                · skip
                  have hv : (!overL e.c c) = true := by unfold overL; simp [x1, x2', x3]
                  have HV := hide hv
                  simp only [x3, Bool.not_false] at HE3; have he3 := HE3.out; clear HE3
                  clear hv
                  go_wp2_with (first
                    | ((with_reducible refine wpList_load_cm ?_ ?_ H0.out.bc.c ?_); rfl; rfl)
                    | ((with_reducible refine wpList_load_cm ?_ ?_ HW.out.c ?_); rfl; rfl)
                    | ((with_reducible refine wpList_load_at h8 ?_ ?_ H0.out.bc.a ?_); rfl; rfl)
                    | ((with_reducible refine wpList_load_at l8 ?_ ?_ HW.out.a ?_); rfl; rfl)
                    | ((with_reducible refine wpList_load_bal ?_ ?_ H0.out.bc.p ?_); rfl; rfl)
                    | ((with_reducible refine wpList_load_bal ?_ ?_ H0.out.bc.v ?_); rfl; rfl)
                    | ((with_reducible refine wpList_load_bal ?_ ?_ HW.out.p ?_); rfl; rfl)
                    | ((with_reducible refine wpList_load_bal ?_ ?_ HW.out.v ?_); rfl; rfl)
                    | (go_at_call 39; (with_reducible refine (HB1.out _).mono ?_); rintro x w7 ⟨rfl, hb3⟩; have H0 := hide (H0.out.kept hb3); have HW := hide (HW.out.kept hb3); have s1 := HW.out.st; have s2 := H0.out.bc.st; clear hb3)
                    | (go_at_call 39; (with_reducible refine (HB2.out _).mono ?_); rintro x w8 ⟨rfl, hb3⟩; have H0 := hide (H0.out.kept hb3); have HW := hide (HW.out.kept hb3); have s1 := HW.out.st; have s2 := H0.out.bc.st; clear hb3))
                  go_meet
                  exact ⟨by rw [HV.out], H0.out⟩
                · cases x4 : decide (c.a = e.c.a)
                  · skip
                    have hv : (!overL e.c c) = true := by unfold overL; simp [x1, x2', x3, x4]
                    have HV := hide hv
                    simp only [x3, Bool.not_true] at HE3; have he3 := HE3.out; clear HE3
                    simp only [x4, Bool.not_false] at HE4; have he4 := HE4.out; clear HE4
                    clear hv
                    go_wp2_with (first
                      | ((with_reducible refine wpList_load_cm ?_ ?_ H0.out.bc.c ?_); rfl; rfl)
                      | ((with_reducible refine wpList_load_cm ?_ ?_ HW.out.c ?_); rfl; rfl)
                      | ((with_reducible refine wpList_load_at h8 ?_ ?_ H0.out.bc.a ?_); rfl; rfl)
                      | ((with_reducible refine wpList_load_at l8 ?_ ?_ HW.out.a ?_); rfl; rfl)
                      | ((with_reducible refine wpList_load_bal ?_ ?_ H0.out.bc.p ?_); rfl; rfl)
                      | ((with_reducible refine wpList_load_bal ?_ ?_ H0.out.bc.v ?_); rfl; rfl)
                      | ((with_reducible refine wpList_load_bal ?_ ?_ HW.out.p ?_); rfl; rfl)
                      | ((with_reducible refine wpList_load_bal ?_ ?_ HW.out.v ?_); rfl; rfl)
                      | (go_at_call 39; (with_reducible refine (HB1.out _).mono ?_); rintro x w7 ⟨rfl, hb3⟩; have H0 := hide (H0.out.kept hb3); have HW := hide (HW.out.kept hb3); have s1 := HW.out.st; have s2 := H0.out.bc.st; clear hb3)
                      | (go_at_call 39; (with_reducible refine (HB2.out _).mono ?_); rintro x w8 ⟨rfl, hb3⟩; have H0 := hide (H0.out.kept hb3); have HW := hide (HW.out.kept hb3); have s1 := HW.out.st; have s2 := H0.out.bc.st; clear hb3))
                    go_meet
                    exact ⟨by rw [HV.out], H0.out⟩
                  · skip
                    cases x5 : ltP c.p e.c.p
                    · cases x6 : ltP c.v e.c.v
                      · by_cases x7 : c.st < e.c.st
                        · cases x8 : sameP c.v e.c.v
                          · skip
                            have hv : (!overL e.c c) = false := by unfold overL; simp [x1, x2', x3, x4, x5, x6, x7, x8]
                            have HV := hide hv
                            simp only [x3, Bool.not_true] at HE3; have he3 := HE3.out; clear HE3
                            simp only [x4, Bool.not_true] at HE4; have he4 := HE4.out; clear HE4
                            simp only [x5] at HB1
                            simp only [x6] at HB2
                            have y7 := x7
                            simp only [x8] at HE8; have he8 := HE8.out; clear HE8
                            clear hv
                            go_wp2_with (first
                              | ((with_reducible refine wpList_load_cm ?_ ?_ H0.out.bc.c ?_); rfl; rfl)
                              | ((with_reducible refine wpList_load_cm ?_ ?_ HW.out.c ?_); rfl; rfl)
                              | ((with_reducible refine wpList_load_at h8 ?_ ?_ H0.out.bc.a ?_); rfl; rfl)
                              | ((with_reducible refine wpList_load_at l8 ?_ ?_ HW.out.a ?_); rfl; rfl)
                              | ((with_reducible refine wpList_load_bal ?_ ?_ H0.out.bc.p ?_); rfl; rfl)
                              | ((with_reducible refine wpList_load_bal ?_ ?_ H0.out.bc.v ?_); rfl; rfl)
                              | ((with_reducible refine wpList_load_bal ?_ ?_ HW.out.p ?_); rfl; rfl)
                              | ((with_reducible refine wpList_load_bal ?_ ?_ HW.out.v ?_); rfl; rfl)
                              | (go_at_call 39; (with_reducible refine (HB1.out _).mono ?_); rintro x w7 ⟨rfl, hb3⟩; have H0 := hide (H0.out.kept hb3); have HW := hide (HW.out.kept hb3); have s1 := HW.out.st; have s2 := H0.out.bc.st; clear hb3)
                              | (go_at_call 39; (with_reducible refine (HB2.out _).mono ?_); rintro x w8 ⟨rfl, hb3⟩; have H0 := hide (H0.out.kept hb3); have HW := hide (HW.out.kept hb3); have s1 := HW.out.st; have s2 := H0.out.bc.st; clear hb3))
                            go_meet
                            exact ⟨by rw [HV.out], H0.out⟩
                          · skip
                            have hv : (!overL e.c c) = true := by unfold overL; simp [x1, x2', x3, x4, x5, x6, x7, x8]
                            have HV := hide hv
                            simp only [x3, Bool.not_true] at HE3; have he3 := HE3.out; clear HE3
                            simp only [x4, Bool.not_true] at HE4; have he4 := HE4.out; clear HE4
                            simp only [x5] at HB1
                            simp only [x6] at HB2
                            have y7 := x7
                            simp only [x8] at HE8; have he8 := HE8.out; clear HE8
                            clear hv
                            go_wp2_with (first
                              | ((with_reducible refine wpList_load_cm ?_ ?_ H0.out.bc.c ?_); rfl; rfl)
                              | ((with_reducible refine wpList_load_cm ?_ ?_ HW.out.c ?_); rfl; rfl)
                              | ((with_reducible refine wpList_load_at h8 ?_ ?_ H0.out.bc.a ?_); rfl; rfl)
                              | ((with_reducible refine wpList_load_at l8 ?_ ?_ HW.out.a ?_); rfl; rfl)
                              | ((with_reducible refine wpList_load_bal ?_ ?_ H0.out.bc.p ?_); rfl; rfl)
                              | ((with_reducible refine wpList_load_bal ?_ ?_ H0.out.bc.v ?_); rfl; rfl)
                              | ((with_reducible refine wpList_load_bal ?_ ?_ HW.out.p ?_); rfl; rfl)
                              | ((with_reducible refine wpList_load_bal ?_ ?_ HW.out.v ?_); rfl; rfl)
                              | (go_at_call 39; (with_reducible refine (HB1.out _).mono ?_); rintro x w7 ⟨rfl, hb3⟩; have H0 := hide (H0.out.kept hb3); have HW := hide (HW.out.kept hb3); have s1 := HW.out.st; have s2 := H0.out.bc.st; clear hb3)
                              | (go_at_call 39; (with_reducible refine (HB2.out _).mono ?_); rintro x w8 ⟨rfl, hb3⟩; have H0 := hide (H0.out.kept hb3); have HW := hide (HW.out.kept hb3); have s1 := HW.out.st; have s2 := H0.out.bc.st; clear hb3))
                            go_meet
                            exact ⟨by rw [HV.out], H0.out⟩
                        · skip
                          have hv : (!overL e.c c) = false := by unfold overL; simp [x1, x2', x3, x4, x5, x6, x7]
                          have HV := hide hv
                          simp only [x3, Bool.not_true] at HE3; have he3 := HE3.out; clear HE3
                          simp only [x4, Bool.not_true] at HE4; have he4 := HE4.out; clear HE4
                          simp only [x5] at HB1
                          simp only [x6] at HB2
                          have y7 := x7
                          clear hv
                          go_wp2_with (first
                            | ((with_reducible refine wpList_load_cm ?_ ?_ H0.out.bc.c ?_); rfl; rfl)
                            | ((with_reducible refine wpList_load_cm ?_ ?_ HW.out.c ?_); rfl; rfl)
                            | ((with_reducible refine wpList_load_at h8 ?_ ?_ H0.out.bc.a ?_); rfl; rfl)
                            | ((with_reducible refine wpList_load_at l8 ?_ ?_ HW.out.a ?_); rfl; rfl)
                            | ((with_reducible refine wpList_load_bal ?_ ?_ H0.out.bc.p ?_); rfl; rfl)
                            | ((with_reducible refine wpList_load_bal ?_ ?_ H0.out.bc.v ?_); rfl; rfl)
                            | ((with_reducible refine wpList_load_bal ?_ ?_ HW.out.p ?_); rfl; rfl)
                            | ((with_reducible refine wpList_load_bal ?_ ?_ HW.out.v ?_); rfl; rfl)
                            | (go_at_call 39; (with_reducible refine (HB1.out _).mono ?_); rintro x w7 ⟨rfl, hb3⟩; have H0 := hide (H0.out.kept hb3); have HW := hide (HW.out.kept hb3); have s1 := HW.out.st; have s2 := H0.out.bc.st; clear hb3)
                            | (go_at_call 39; (with_reducible refine (HB2.out _).mono ?_); rintro x w8 ⟨rfl, hb3⟩; have H0 := hide (H0.out.kept hb3); have HW := hide (HW.out.kept hb3); have s1 := HW.out.st; have s2 := H0.out.bc.st; clear hb3))
                          go_meet
                          exact ⟨by rw [HV.out], H0.out⟩
                      · skip
                        have hv : (!overL e.c c) = true := by unfold overL; simp [x1, x2', x3, x4, x5, x6]
                        have HV := hide hv
                        simp only [x3, Bool.not_true] at HE3; have he3 := HE3.out; clear HE3
                        simp only [x4, Bool.not_true] at HE4; have he4 := HE4.out; clear HE4
                        simp only [x5] at HB1
                        simp only [x6] at HB2
                        clear hv
                        go_wp2_with (first
                          | ((with_reducible refine wpList_load_cm ?_ ?_ H0.out.bc.c ?_); rfl; rfl)
                          | ((with_reducible refine wpList_load_cm ?_ ?_ HW.out.c ?_); rfl; rfl)
                          | ((with_reducible refine wpList_load_at h8 ?_ ?_ H0.out.bc.a ?_); rfl; rfl)
                          | ((with_reducible refine wpList_load_at l8 ?_ ?_ HW.out.a ?_); rfl; rfl)
                          | ((with_reducible refine wpList_load_bal ?_ ?_ H0.out.bc.p ?_); rfl; rfl)
                          | ((with_reducible refine wpList_load_bal ?_ ?_ H0.out.bc.v ?_); rfl; rfl)
                          | ((with_reducible refine wpList_load_bal ?_ ?_ HW.out.p ?_); rfl; rfl)
                          | ((with_reducible refine wpList_load_bal ?_ ?_ HW.out.v ?_); rfl; rfl)
                          | (go_at_call 39; (with_reducible refine (HB1.out _).mono ?_); rintro x w7 ⟨rfl, hb3⟩; have H0 := hide (H0.out.kept hb3); have HW := hide (HW.out.kept hb3); have s1 := HW.out.st; have s2 := H0.out.bc.st; clear hb3)
                          | (go_at_call 39; (with_reducible refine (HB2.out _).mono ?_); rintro x w8 ⟨rfl, hb3⟩; have H0 := hide (H0.out.kept hb3); have HW := hide (HW.out.kept hb3); have s1 := HW.out.st; have s2 := H0.out.bc.st; clear hb3))
                        go_meet
                        exact ⟨by rw [HV.out], H0.out⟩
                    · skip
                      have hv : (!overL e.c c) = true := by unfold overL; simp [x1, x2', x3, x4, x5]
                      have HV := hide hv
                      simp only [x3, Bool.not_true] at HE3; have he3 := HE3.out; clear HE3
                      simp only [x4, Bool.not_true] at HE4; have he4 := HE4.out; clear HE4
                      simp only [x5] at HB1
                      clear hv
                      go_wp2_with (first
                        | ((with_reducible refine wpList_load_cm ?_ ?_ H0.out.bc.c ?_); rfl; rfl)
                        | ((with_reducible refine wpList_load_cm ?_ ?_ HW.out.c ?_); rfl; rfl)
                        | ((with_reducible refine wpList_load_at h8 ?_ ?_ H0.out.bc.a ?_); rfl; rfl)
                        | ((with_reducible refine wpList_load_at l8 ?_ ?_ HW.out.a ?_); rfl; rfl)
                        | ((with_reducible refine wpList_load_bal ?_ ?_ H0.out.bc.p ?_); rfl; rfl)
                        | ((with_reducible refine wpList_load_bal ?_ ?_ H0.out.bc.v ?_); rfl; rfl)
                        | ((with_reducible refine wpList_load_bal ?_ ?_ HW.out.p ?_); rfl; rfl)
                        | ((with_reducible refine wpList_load_bal ?_ ?_ HW.out.v ?_); rfl; rfl)
                        | (go_at_call 39; (with_reducible refine (HB1.out _).mono ?_); rintro x w7 ⟨rfl, hb3⟩; have H0 := hide (H0.out.kept hb3); have HW := hide (HW.out.kept hb3); have s1 := HW.out.st; have s2 := H0.out.bc.st; clear hb3)
                        | (go_at_call 39; (with_reducible refine (HB2.out _).mono ?_); rintro x w8 ⟨rfl, hb3⟩; have H0 := hide (H0.out.kept hb3); have HW := hide (HW.out.kept hb3); have s1 := HW.out.st; have s2 := H0.out.bc.st; clear hb3))
                      go_meet
                      exact ⟨by rw [HV.out], H0.out⟩
              · have x2' : (c.st == 3) = false := by simpa using x2
                have hv : (!overL e.c c) = true := by unfold overL; simp [x1, x2']
                have HV := hide hv
                clear hv
                go_wp2_with (first
                  | ((with_reducible refine wpList_load_cm ?_ ?_ H0.out.bc.c ?_); rfl; rfl)
                  | ((with_reducible refine wpList_load_cm ?_ ?_ HW.out.c ?_); rfl; rfl)
                  | ((with_reducible refine wpList_load_at h8 ?_ ?_ H0.out.bc.a ?_); rfl; rfl)
                  | ((with_reducible refine wpList_load_at l8 ?_ ?_ HW.out.a ?_); rfl; rfl)
                  | ((with_reducible refine wpList_load_bal ?_ ?_ H0.out.bc.p ?_); rfl; rfl)
                  | ((with_reducible refine wpList_load_bal ?_ ?_ H0.out.bc.v ?_); rfl; rfl)
                  | ((with_reducible refine wpList_load_bal ?_ ?_ HW.out.p ?_); rfl; rfl)
                  | ((with_reducible refine wpList_load_bal ?_ ?_ HW.out.v ?_); rfl; rfl)
                  | (go_at_call 39; (with_reducible refine (HB1.out _).mono ?_); rintro x w7 ⟨rfl, hb3⟩; have H0 := hide (H0.out.kept hb3); have HW := hide (HW.out.kept hb3); have s1 := HW.out.st; have s2 := H0.out.bc.st; clear hb3)
                  | (go_at_call 39; (with_reducible refine (HB2.out _).mono ?_); rintro x w8 ⟨rfl, hb3⟩; have H0 := hide (H0.out.kept hb3); have HW := hide (HW.out.kept hb3); have s1 := HW.out.st; have s2 := H0.out.bc.st; clear hb3))
                go_meet
                exact ⟨by rw [HV.out], H0.out⟩
          case rest =>
          obtain ⟨rfl, HZ⟩ := hcut
          replace H0 := hide HZ
          clear HZ HW HB1 HB2 HE3 HE4 HE8
          cases hq : overL e.c c
          · have hm := HM.out
            rw [hq] at hm
            have HF := hide hm
            clear hq hm
            go_wp2
            go_ret
            exact SetA.no HF.out (by rw [← HNN.out] at H0; exact H0.out.ro) H0.out.low
          · have hm := HM.out
            rw [hq] at hm
            have HF := hide hm
            clear hq hm
            go_upto_region 8 with (fail)
            refine wp_region_noPanic ?_
            refine wp_region_U 7 (fun w' : World => Below wc.heap.size wc w') (by kernel_rfl) ?_
            have HD := hide (show (fun w' : World => Below wc.heap.size wc w') wc.drew from kept_drewN (kept_refl _) 1)
            generalize wc.drew = wd at HD ⊢
            refine anyU_take2 (i := 0) (v := .pointer (some ⟨g, 0, none⟩)) (by simp only [List.getElem?_toArray, List.getElem?_cons_zero]; exact rfl) (by kernel_rfl) 12 (by kernel_rfl) (by kernel_rfl) (fun _ _ _ h => h) (by kernel_rfl) (by kernel_rfl) (by kernel_rfl) (by kernel_rfl) (Or.inl ⟨by rfl, fun w hSw => (by go_simp; try with_reducible rfl)⟩) (by with_reducible exact HD.out) ?_
            try simp only [Act.put, List.setIfInBounds_toArray, List.set_cons_zero, List.set_cons_succ]
            refine anyU_take2 (i := 1) (v := .pointer (some ⟨g, 0, none⟩)) (by simp only [List.getElem?_toArray, List.getElem?_cons_succ, List.getElem?_cons_zero]; exact rfl) (by kernel_rfl) 12 (by kernel_rfl) (by kernel_rfl) (fun _ _ _ h => h) (by kernel_rfl) (by kernel_rfl) (by kernel_rfl) (by kernel_rfl) (Or.inl ⟨by rfl, fun w hSw => (by go_simp; try with_reducible rfl)⟩) (by with_reducible exact HD.out) ?_
            try simp only [Act.put, List.setIfInBounds_toArray, List.set_cons_zero, List.set_cons_succ]
            refine anyU_take2 (i := 2) (v := .pointer (some ⟨g, 1, none⟩)) (by simp only [List.getElem?_toArray, List.getElem?_cons_succ, List.getElem?_cons_zero]; exact rfl) (by kernel_rfl) 12 (by kernel_rfl) (by kernel_rfl) (fun _ _ _ h => h) (by kernel_rfl) (by kernel_rfl) (by kernel_rfl) (by kernel_rfl) (Or.inl ⟨by rfl, fun w hSw => (by go_simp; try with_reducible rfl)⟩) (by with_reducible exact HD.out) ?_
            try simp only [Act.put, List.setIfInBounds_toArray, List.set_cons_zero, List.set_cons_succ]
            refine anyU_take2 (i := 3) (v := .slice (some ⟨gC, 0, none⟩) n b) (by simp only [List.getElem?_toArray, List.getElem?_cons_succ, List.getElem?_cons_zero]; exact rfl) (by kernel_rfl) 12 (by kernel_rfl) (by kernel_rfl) (fun _ _ _ h => h) (by kernel_rfl) (by kernel_rfl) (by kernel_rfl) (by kernel_rfl) (Or.inl ⟨by rfl, fun w hSw => (by have x0 := (H0.out.ro.below hSw).c1; go_simp; try with_reducible rfl)⟩) (by with_reducible exact HD.out) ?_
            try simp only [Act.put, List.setIfInBounds_toArray, List.set_cons_zero, List.set_cons_succ]
            refine anyU_take2 (i := 4) (v := .int .i64 (p : Nat)) (by simp only [List.getElem?_toArray, List.getElem?_cons_succ, List.getElem?_cons_zero]; exact rfl) (by kernel_rfl) 12 (by kernel_rfl) (by kernel_rfl) (fun _ _ _ h => h) (by kernel_rfl) (by kernel_rfl) (by kernel_rfl) (by kernel_rfl) (Or.inl ⟨by rfl, fun w hSw => (by go_simp; try with_reducible rfl)⟩) (by with_reducible exact HD.out) ?_
            try simp only [Act.put, List.setIfInBounds_toArray, List.set_cons_zero, List.set_cons_succ]
            refine anyU_take2 (i := 5) (v := .agg (clC c)) (by simp only [List.getElem?_toArray, List.getElem?_cons_succ, List.getElem?_cons_zero]; exact rfl) (by kernel_rfl) 12 (by kernel_rfl) (by kernel_rfl) (fun _ _ _ h => h) (by kernel_rfl) (by kernel_rfl) (by kernel_rfl) (by kernel_rfl) (Or.inl ⟨by rfl, fun w hSw => exec_load_gp rfl rfl (H0.out.bc.kept hSw).all ce_under rfl (by rw [Cl.len h8]; exact ce_info)⟩) (by with_reducible exact HD.out) ?_
            try simp only [Act.put, List.setIfInBounds_toArray, List.set_cons_zero, List.set_cons_succ]
            refine anyU_take2 (i := 6) (v := .pointer (some ⟨gC, p * 21, none⟩)) (by simp only [List.getElem?_toArray, List.getElem?_cons_succ, List.getElem?_cons_zero]; exact rfl) (by kernel_rfl) 12 (by kernel_rfl) (by kernel_rfl) (fun _ _ _ h => h) (by kernel_rfl) (by kernel_rfl) (by kernel_rfl) (by kernel_rfl) (Or.inl ⟨by rfl, fun w hSw => (by go_simp; try with_reducible rfl)⟩) (by with_reducible exact HD.out) ?_
            try simp only [Act.put, List.setIfInBounds_toArray, List.set_cons_zero, List.set_cons_succ]
            have hrc := (H0.out.ro.below HD.out).rc
            have hpl : p < (cV k).length := by rw [cV_len, HNN.out]; exact hpn
            refine anyU_one (i := 7) (by kernel_rfl) (by simp only [List.getElem?_toArray, List.getElem?_cons_succ, List.getElem?_cons_zero]; exact rfl) (fun K hK => ?_)
            refine step_store_rw (y := c.l) p rfl rfl rfl rfl hrc (cV_all H0.out.ro.l8) hpl (Cl.len h8) (one_cl c) ce_info ?_
            intro w9 hrw hg9
            refine hK.out _ _ (fun e _ => absurd rfl e) ?_
            clear hK K hrc hpl
            have HFI := hide (Ro.putCell (H0.out.ro.below HD.out) HE.out HI.out h8 hrw hg9)
            have HKQ := hide (show Kq (roO g (.slice (some ⟨gI, 0, none⟩) k.length a) (.slice (some ⟨gC, 0, none⟩) k.length b)) w w9 from (Kq.of_below (kept_trans H0.out.low HD.out)).trans (Kq.grown hg9 (fun _ e => .inr (.inr e))) (fun _ _ h => h))
            clear hrw hg9
            try simp only [Act.put]
            refine anyU_done (by kernel_rfl) ?_
            refine NoPanic.normal ?_
            try simp only [Act.put]
            go_wp2
            go_ret
            exact ⟨by rw [HF.out]; rfl, ⟨_, _, by rw [set_yes HF.out]; show Ro base _ g _ _ (putL k (i1, i2) c) d; rw [HP.out]; exact HFI.out⟩, HKQ.out⟩
    · skip
      have hm := HN.out (Or.inr (Or.inl q2))
      have HM := hide hm
      simp only [q1, q2] at HR HG
      clear q1 q2 hm
      go_enter Try.func17, Try.ntmps17
      go_upto_region 1 with (fail)
      generalize (w.alloc (.cells #[.int .i64 i1, .int .i64 i2] 28)).alloc (.cells (clC c) 37) = w1 at H0 ⊢
      obtain ⟨c0, c1⟩ := C0.out _ H0.out
      go_wp2_with (first
        | ((with_reducible refine wpList_load_ce h8 ?_ ?_ H0.out.bc.all ?_); rfl; rfl)
        | (go_at_call 36; (with_reducible refine (HR.out _).mono ?_); rintro e w2 ⟨rfl, hb2⟩; have H0 := hide (H0.out.kept hb2); obtain ⟨c0, c1⟩ := C0.out _ H0.out; clear hb2)
        | (go_at_call 20; (with_reducible refine (HG.out _ H0.out.ro).mono ?_); rintro e w3 ⟨rfl, hb2⟩; have H0 := hide (H0.out.kept hb2); obtain ⟨c0, c1⟩ := C0.out _ H0.out; clear hb2)
        | (go_at_call 37; (with_reducible refine (HC.out _).mono ?_); rintro e w4 ⟨rfl, hb2⟩; have H0 := hide (H0.out.kept hb2); obtain ⟨c0, c1⟩ := C0.out _ H0.out; clear hb2)
        | (go_at_call 38; (with_reducible refine (HA.out _ H0.out.ro).mono ?_); rintro e w5 ⟨rfl, hb2⟩; have H0 := hide (H0.out.kept hb2); obtain ⟨c0, c1⟩ := C0.out _ H0.out; clear hb2))
      go_ret
      exact SetA.no HM.out H0.out.ro H0.out.low
end Go.Proofs.Ytiaegloipnhhdaa
