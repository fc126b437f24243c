/- The program's Right of letters. Conditions: the lists are as long as they are. -/
import Derived.Test.YtjkdccokiaejhaaQf
import Derived.Test.YtjkdccokiaejhaaQa
import Derived.Test.YtjkdccokiaejhaaQe
namespace Go.Proofs.Ytjkdccokiaejhaa
set_option maxRecDepth 100000
open Go.RowKit
theorem exec_load_gp {P : Program} {a : Act} {w : World} {o : Oper} {t : TypeId} {x : Operand} {b off : Nat} {cs : List Value} {D : TypeDesc} (ho : o.op = .load t x) (hx : a.eval x = .pointer (some ⟨b, off, none⟩)) (R : w.rangeAt b off cs)
    (hu : P.underlying t = some D) (hd : D.isRow = true) (hi : (P.info? t).map (·.size) = some cs.length) : (execOp a.eval o).run P w = .ok (.value (.agg cs.toArray)) w := by
  unfold execOp
  simp only [ho, hx, Instr.loadAt, Instr.sureAddr, Sem.run_bind, Sem.run_pure, Result.andThen_ok, run_loadVar_mid w b off t cs D R hu hd hi]
section
variable {P : Program} {ops : Array Oper} {rest : List Oper} {d : Option Tmp} {ty : TypeId} {ps : String} {af : Array Edge} {x u : Operand} {a : Act} {w : World} {Q : Exit → Act → World → Prop}
/-- A whole value is stored into the block that was made last. -/
theorem wpList_store_new {vs cs : Array Value} {T t : TypeId} (hi : (P.info? t).map (·.size) = some vs.size) (hc : cs.size = vs.size) (h1 : vs.all (·.oneCell') = true) (hx : a.eval x = .pointer (some ⟨w.heap.size, 0, none⟩)) (hy : a.eval u = .agg vs)
    (h : wpList P ops Q rest (a.put d undef) (w.alloc (.cells vs T))) :
    wpList P ops Q ({ dst := d, op := .store t x u, type := ty, pos := ps, after := af, guard := none } :: rest) a (w.alloc (.cells cs T)) :=
  wpList_plain rfl fun K hK => by
    unfold Oper.wp execOp
    simp only [hx, hy, Instr.storeAt, Instr.sureAddr, Sem.run_bind, Sem.run_pure, Result.andThen_ok, run_storeVar_row _ w.heap.size T t _ _ (Row.new w T cs) hi hc h1]
    rw [World.setRow_alloc_new]
    exact hK _ _ h
end
theorem hC_all (k : Int) : (hC k).all (·.oneCell') = true := all_oneCell_toArray (cs := [.bool (okK k && nmI k), .bool (okK k && nmB k), .bool (okK k && nmC k), .bool (okK k && nmA k), .bool (okK k && nmX k), .bool (okK k && nmD k), .bool (okK k && nmZ k)]) (fun v hv => by
  simp only [List.mem_cons, List.not_mem_nil, or_false] at hv
  rcases hv with rfl | rfl | rfl | rfl | rfl | rfl | rfl <;> rfl)
theorem bareL_wf {m : Lt} (h : LtWf m) : LtWf (bareL m) := by
  refine ⟨?_, ?_, ?_⟩
  · show (if nmA m.k then m.a else zero8).length = 8
    split
    · exact h.a
    · rfl
  · show (if nmX m.k then m.x else zeroCl).a.length = 8
    split
    · exact h.x
    · rfl
  · show (if nmD m.k then m.d else zero7).length = 7
    split
    · exact h.d
    · rfl
theorem pright_eq (m : Lt) : rightLt m = (okK m.k && (sameLt m (bareL m) && (repB m.f && (repB m.t && (!(m.f == m.t) && ((!(okK m.k && nmI m.k) || rightI m.i.1 m.i.2) && (rightB m.b.1 m.b.2 && (rightC m.c && (rightAl m.a && (rightCl m.x && (rightD m.d && decide (m.z.size ≤ 16384)))))))))))) := by
  unfold rightLt
  have ek : (decide (1 ≤ m.k) && decide (m.k ≤ 11)) = okK m.k := rfl
  rw [ek]
  cases hk : okK m.k
  · rfl
  · cases hs : sameLt m (bareL m)
    · simp
    · have e := sameLt_iff.1 hs
      cases hi : nmI m.k
      · have hb : m.b = (0, 0) := by
          rw [e]
          show (if nmB m.k then m.b else (0, 0)) = (0, 0)
          have : nmB m.k = false := by
            unfold nmB
            unfold nmI at hi
            rw [hi]; rfl
          rw [this]
          rfl
        rw [hb]
        simp [show rightB 0 0 = true from rfl]
      · simp [Bool.and_assoc]
theorem LAt.drew {w : World} {b : Nat} {t : TypeId} {m : Lt} (h : LAt w b t m) : LAt w.drew b t m := h.kept (Below.refl _ _).drew
theorem hC_range {w : World} {g : Nat} {t : TypeId} {k : Int} (h : Row w g t (hC k)) : w.rangeAt g 0 (hC k).toList := h.mid (A := []) (ys := (hC k).toList) (B := []) (by simp) rfl
end Go.Proofs.Ytjkdccokiaejhaa
/- Reading: a reader behind a pointer while blocks of the call's own are filled; stores into a cell's block. Conditions: the lists are as long as they are. -/
namespace Go.Proofs.Ytjkdccokiaejhaa
set_option maxRecDepth 100000
open Go.RowKit
/-- The reader at g, and what was there when the call began. -/
structure Rg (t : TypeId) (W w : World) (B g : Nat) (zs : List Int) (i : Nat) (e : Int) : Prop where
  r : Rdr t w B g zs i e
  old : W.grownBy w (some g)
  lt : g < W.heap.size
section
variable {t : TypeId} {W w w' : World} {B g i i' h : Nat} {zs : List Int} {e e' : Int}
theorem Rg.start (hr : Rdr t w B g zs i e) : Rg t w w B g zs i e := ⟨hr, grown_refl w _, hr.lt⟩
theorem Rg.step (s : Rg t W w B g zs i e) (hr : Rdr t w' B g zs i' e') (hg : w.grownBy w' (some g)) : Rg t W w' B g zs i' e' := ⟨hr, grown_trans s.old hg, s.lt⟩
theorem Rg.quiet (s : Rg t W w B g zs i e) (hb : Below w.heap.size w w') : Rg t W w' B g zs i e := ⟨s.r.below hb, grown_trans s.old (grown_any (grown_below hb)), s.lt⟩
theorem Rg.alloc (s : Rg t W w B g zs i e) (o : Obj) : Rg t W (w.alloc o) B g zs i e := s.quiet ((Below.refl _ _).alloc (Nat.le_refl _) _)
theorem grown_far {a b c : World} {g h : Nat} (h1 : a.grownBy b (some g)) (h2 : b.grownBy c (some h)) (hl : a.heap.size ≤ h) : a.grownBy c (some g) :=
  ⟨h2.os.trans h1.os, h2.tape.trans h1.tape, h2.output.trans h1.output, Nat.le_trans h1.size h2.size, fun k hk hr => (h2.block k (Nat.lt_of_lt_of_le hk h1.size) (fun e => by injection e; omega)).trans (h1.block k hk hr)⟩
theorem Rg.put (s : Rg t W w B g zs i e) (hg : w.grownBy w' (some h)) (hl : W.heap.size ≤ h) : Rg t W w' B g zs i e :=
  have h1 := s.lt
  have h2 := s.r.low
  ⟨s.r.far hg (by omega) (by omega), grown_far s.old hg hl, s.lt⟩
theorem Rg.wrong (s : Rg t W w B g zs i e) : Rg t W (w.setCell ⟨g, 2, none⟩ (.int .i64 4)) B g zs i 4 := ⟨s.r.wrong (by omega), grown_put s.old _ _, s.lt⟩
end
/-- What a call reads: a thing v as d says. -/
def ReadG {α : Type} (t : TypeId) (w : World) (B g : Nat) (zs : List Int) (val : α → Value) (d : Rdm α) (e : Int) (P : α → Int → Prop) (y : Ending) (w' : World) : Prop :=
  ∃ v i' e', y = .returned (val v) ∧ Rdr t w' B g zs i' e' ∧ w.grownBy w' (some g) ∧ Got d e v i' e' ∧ P v e'
def yes {α : Type} (_ : α) (_ : Int) : Prop := True
theorem rNumV_i64 {zs : List Int} (ho : Octets zs) {i : Nat} {e : Int} : I64 (rNumV zs i e) := by
  have := rd_bounds (octets_drop ho i)
  unfold rNumV
  split
  · exact ⟨this.1, this.2.1⟩
  · unfold I64; omega
section
variable {w : World} {B g i : Nat} {zs : List Int} {e : Int}
end
/-! ### Stores into a cell's block -/
section
variable {ops : Array Oper} {rest : List Oper} {d : Option Tmp} {ty : TypeId} {ps : String} {af : Array Edge} {x u : Operand} {a : Act} {w w' : World} {Q : Exit → Act → World → Prop} {b o : Nat} {t : TypeId} {c y : Cl}
theorem CeAt.there (h : CeAt w b t c) (o n : Nat) (hn : o + n ≤ 21) : w.there b o n := fun j hj => by
  refine ⟨?_, h.r.free _⟩
  have hl := clC_size h.l
  rw [h.r.cell, Array.getElem?_eq_getElem (by omega)]
  rfl
theorem CeAt.put {A ys vs D : List Value} {o : Nat} (h : CeAt w b t c) (e1 : c.l = A ++ (ys ++ D)) (e2 : y.l = A ++ (vs ++ D)) (ho : A.length = o) (hl : vs.length = ys.length) (hw : y.a.length = 8) : CeAt (w.setCells b o vs) b t y := by
  refine ⟨?_, hw⟩
  have hr := Row.puts vs o h.r
  unfold clC at hr ⊢
  rw [e1, ← ho, puts_mid vs ys A D hl] at hr
  rw [e2, ← ho]
  exact hr
theorem CeAt.other {k : Nat} (h : CeAt w b t c) (hg : w.grownBy w' (some k)) (hne : b ≠ k) : CeAt w' b t c := ⟨h.r.grown hg (by simpa using hne), h.l⟩
theorem wp_store_c {op : Oper} {K : Act → World → Prop} {T : TypeId} {A ys vs D : List Value} (ho' : op.op = .store T x u) (hx : a.eval x = .pointer (some ⟨b, o, none⟩)) (hy : a.eval u = .agg vs.toArray) (L : CeAt w b t c) (e1 : c.l = A ++ (ys ++ D)) (e2 : y.l = A ++ (vs ++ D)) (ho : A.length = o) (hl : vs.length = ys.length)
    (hw : y.a.length = 8) (hi : (Try.prog.info? T).map (·.size) = some vs.length) (h1 : ∀ v, v ∈ vs → v.oneCell' = true) (h : ∀ w', CeAt w' b t y → w.grownBy w' (some b) → K (a.put op.dst undef) w') : op.wp Try.prog a w K Q := by
  have h51 : o + vs.length ≤ 21 := by
    have := Cl.len L.l
    rw [e1, List.length_append, List.length_append] at this
    omega
  refine wp_store_mid T x u ho' b o vs.toArray hx hy (L.there o _ (by rw [List.size_toArray]; exact h51)) (by rw [List.size_toArray]; exact hi) (all_oneCell_toArray h1) ?_
  exact h _ (L.put e1 e2 ho hl hw) (grown_setCells b vs o w)
theorem one_pair (p q : Int) : ∀ v, v ∈ [Value.int .i64 p, .int .i64 q] → v.oneCell' = true := fun v hv => by simp at hv; rcases hv with rfl | rfl <;> rfl
theorem wpList_store_xp {p : Int × Int} (hx : a.eval x = .pointer (some ⟨b, 1, none⟩)) (hy : a.eval u = .agg #[.int .i64 p.1, .int .i64 p.2]) (L : CeAt w b t c) (h : ∀ w', CeAt w' b t { c with p := p } → w.grownBy w' (some b) → wpList Try.prog ops Q rest (a.put d undef) w') :
    wpList Try.prog ops Q ({ dst := d, op := .store 30 x u, type := ty, pos := ps, after := af, guard := none } :: rest) a w :=
  wpList_plain rfl fun _ hK => wp_store_c (A := [.int .i64 c.st]) (ys := [.int .i64 c.p.1, .int .i64 c.p.2]) (vs := [.int .i64 p.1, .int .i64 p.2]) (D := .int .i64 c.v.1 :: .int .i64 c.v.2 :: (c.c.l ++ (cellsR c.a ++ [.bool c.s]))) (y := { c with p := p })
    rfl hx hy L rfl rfl rfl rfl L.l bal_info (one_pair _ _) fun w' h1 h2 => hK _ _ (h w' h1 h2)
theorem wpList_store_xv {p : Int × Int} (hx : a.eval x = .pointer (some ⟨b, 3, none⟩)) (hy : a.eval u = .agg #[.int .i64 p.1, .int .i64 p.2]) (L : CeAt w b t c) (h : ∀ w', CeAt w' b t { c with v := p } → w.grownBy w' (some b) → wpList Try.prog ops Q rest (a.put d undef) w') :
    wpList Try.prog ops Q ({ dst := d, op := .store 30 x u, type := ty, pos := ps, after := af, guard := none } :: rest) a w :=
  wpList_plain rfl fun _ hK => wp_store_c (A := [.int .i64 c.st, .int .i64 c.p.1, .int .i64 c.p.2]) (ys := [.int .i64 c.v.1, .int .i64 c.v.2]) (vs := [.int .i64 p.1, .int .i64 p.2]) (D := c.c.l ++ (cellsR c.a ++ [.bool c.s])) (y := { c with v := p })
    rfl hx hy L rfl rfl rfl rfl L.l bal_info (one_pair _ _) fun w' h1 h2 => hK _ _ (h w' h1 h2)
theorem wpList_store_xc {y : Cm} (hx : a.eval x = .pointer (some ⟨b, 5, none⟩)) (hy : a.eval u = .agg #[.int .i64 y.k, .int .i64 y.c, .int .i64 y.q, .string y.key, .string y.en, .string y.old, .string y.val]) (L : CeAt w b t c) (h : ∀ w', CeAt w' b t { c with c := y } → w.grownBy w' (some b) → wpList Try.prog ops Q rest (a.put d undef) w') :
    wpList Try.prog ops Q ({ dst := d, op := .store 32 x u, type := ty, pos := ps, after := af, guard := none } :: rest) a w :=
  wpList_plain rfl fun _ hK => wp_store_c (A := [.int .i64 c.st, .int .i64 c.p.1, .int .i64 c.p.2, .int .i64 c.v.1, .int .i64 c.v.2]) (ys := c.c.l) (vs := y.l) (D := cellsR c.a ++ [.bool c.s]) (y := { c with c := y })
    rfl hx hy L rfl rfl rfl rfl L.l cm_info (one_cm y) fun w' h1 h2 => hK _ _ (h w' h1 h2)
theorem wpList_store_xa {y : List Int} (hl : y.length = 8) (hx : a.eval x = .pointer (some ⟨b, 12, none⟩)) (hy : a.eval u = .agg (cA y)) (L : CeAt w b t c) (h : ∀ w', CeAt w' b t { c with a := y } → w.grownBy w' (some b) → wpList Try.prog ops Q rest (a.put d undef) w') :
    wpList Try.prog ops Q ({ dst := d, op := .store 26 x u, type := ty, pos := ps, after := af, guard := none } :: rest) a w :=
  wpList_plain rfl fun _ hK => wp_store_c (A := [.int .i64 c.st, .int .i64 c.p.1, .int .i64 c.p.2, .int .i64 c.v.1, .int .i64 c.v.2] ++ c.c.l) (ys := cellsR c.a) (vs := cellsR y) (D := [.bool c.s]) (y := { c with a := y })
    rfl hx hy L rfl rfl rfl (by rw [length_cellsR, length_cellsR, hl, L.l]) hl (by rw [length_cellsR, hl]; exact at_info) one_ints fun w' h1 h2 => hK _ _ (h w' h1 h2)
theorem wpList_store_xw (wy : y.a.length = 8) (hx : a.eval x = .pointer (some ⟨b, 0, none⟩)) (hy : a.eval u = .agg (clC y)) (L : CeAt w b t c) (h : ∀ w', CeAt w' b t y → w.grownBy w' (some b) → wpList Try.prog ops Q rest (a.put d undef) w') :
    wpList Try.prog ops Q ({ dst := d, op := .store 34 x u, type := ty, pos := ps, after := af, guard := none } :: rest) a w :=
  wpList_plain rfl fun _ hK => wp_store_c (A := []) (ys := c.l) (vs := y.l) (D := []) (y := y) rfl hx hy L (by simp) (by simp) rfl (by rw [Cl.len wy, Cl.len L.l]) wy (by rw [Cl.len wy]; exact ce_info) (one_cl y) fun w' h1 h2 => hK _ _ (h w' h1 h2)
theorem wpList_store_xs {s : Bool} (hx : a.eval x = .pointer (some ⟨b, 20, none⟩)) (hy : a.eval u = .bool s) (L : CeAt w b t c) (h : ∀ w', CeAt w' b t { c with s := s } → w.grownBy w' (some b) → wpList Try.prog ops Q rest (a.put d undef) w') :
    wpList Try.prog ops Q ({ dst := d, op := .store 4 x u, type := ty, pos := ps, after := af, guard := none } :: rest) a w :=
  wpList_plain rfl fun K hK => by
    have hz := L.s
    have hf := L.r.free 20
    have hp := L.put (y := { c with s := s }) (A := [.int .i64 c.st, .int .i64 c.p.1, .int .i64 c.p.2, .int .i64 c.v.1, .int .i64 c.v.2] ++ (c.c.l ++ cellsR c.a)) (ys := [.bool c.s]) (vs := [.bool s]) (D := []) (o := 20) (by unfold Cl.l; simp) (by unfold Cl.l; simp) (by
      have h3 : c.c.l.length = 7 := rfl
      simp only [List.length_append, length_cellsR, L.l, h3]
      rfl) rfl L.l
    have hg := grown_setCells b [.bool s] 20 w
    have h2 := hK _ _ (h _ hp hg)
    unfold Oper.wp execOp
    simp only [hx, hy]
    go_simp
    exact h2
end
theorem cl_all (x : Cl) : (clC x).all (·.oneCell') = true := all_oneCell_toArray (one_cl x)
theorem fill_c0 (st : Int) (w : World) : (Instr.build 34 #[(0, .int .i64 st)]).run Try.prog w = .ok (.agg (clC { zeroCl with st := st })) w := by kernel_rfl
theorem fill_cz (w : World) : (Instr.build 34 #[]).run Try.prog w = .ok (.agg (clC zeroCl)) w := by kernel_rfl
end Go.Proofs.Ytjkdccokiaejhaa
