/- Reading: a reader behind a pointer while blocks of the call's own are filled; stores into a cell's block. Conditions: the lists are as long as they are. -/
import Derived.Test.YtlnpfaoeockoiaaWf
import Derived.Test.YtlnpfaoeockoiaaWg
import Derived.Test.YtlnpfaoeockoiaaWe
namespace Go.Proofs.Ytlnpfaoeockoiaa
set_option maxRecDepth 100000
open Go.RowKit
/-- The reader at g, and what was there when the call began. -/
structure Rg (t : TypeId) (W w : World) (B g : Nat) (zs : List Int) (i : Nat) (e : Int) : Prop where
  r : Rdr t w B g zs i e
  old : W.grownBy w (some g)
  lt : g < W.heap.size
section
variable {t : TypeId} {W w w' : World} {B g i i' h : Nat} {zs : List Int} {e e' : Int}
theorem Rg.start (hr : Rdr t w B g zs i e) : Rg t w w B g zs i e := ⟨hr, grown_refl w _, hr.lt⟩
theorem Rg.step (s : Rg t W w B g zs i e) (hr : Rdr t w' B g zs i' e') (hg : w.grownBy w' (some g)) : Rg t W w' B g zs i' e' := ⟨hr, grown_trans s.old hg, s.lt⟩
theorem Rg.quiet (s : Rg t W w B g zs i e) (hb : Below w.heap.size w w') : Rg t W w' B g zs i e := ⟨s.r.below hb, grown_trans s.old (grown_any (grown_below hb)), s.lt⟩
theorem Rg.alloc (s : Rg t W w B g zs i e) (o : Obj) : Rg t W (w.alloc o) B g zs i e := s.quiet ((Below.refl _ _).alloc (Nat.le_refl _) _)
theorem grown_far {a b c : World} {g h : Nat} (h1 : a.grownBy b (some g)) (h2 : b.grownBy c (some h)) (hl : a.heap.size ≤ h) : a.grownBy c (some g) :=
  ⟨h2.os.trans h1.os, h2.tape.trans h1.tape, h2.output.trans h1.output, Nat.le_trans h1.size h2.size, fun k hk hr => (h2.block k (Nat.lt_of_lt_of_le hk h1.size) (fun e => by injection e; omega)).trans (h1.block k hk hr)⟩
theorem Rg.put (s : Rg t W w B g zs i e) (hg : w.grownBy w' (some h)) (hl : W.heap.size ≤ h) : Rg t W w' B g zs i e :=
  have h1 := s.lt
  have h2 := s.r.low
  ⟨s.r.far hg (by omega) (by omega), grown_far s.old hg hl, s.lt⟩
theorem Rg.wrong (s : Rg t W w B g zs i e) : Rg t W (w.setCell ⟨g, 2, none⟩ (.int .i64 4)) B g zs i 4 := ⟨s.r.wrong (by omega), grown_put s.old _ _, s.lt⟩
end
/-- What a call reads: a thing v as d says. -/
def ReadG {α : Type} (t : TypeId) (w : World) (B g : Nat) (zs : List Int) (val : α → Value) (d : Rdm α) (e : Int) (P : α → Int → Prop) (y : Ending) (w' : World) : Prop :=
  ∃ v i' e', y = .returned (val v) ∧ Rdr t w' B g zs i' e' ∧ w.grownBy w' (some g) ∧ Got d e v i' e' ∧ P v e'
def yes {α : Type} (_ : α) (_ : Int) : Prop := True
theorem rNumV_i64 {zs : List Int} (ho : Octets zs) {i : Nat} {e : Int} : I64 (rNumV zs i e) := by
  have := rd_bounds (octets_drop ho i)
  unfold rNumV
  split
  · exact ⟨this.1, this.2.1⟩
  · unfold I64; omega
section
variable {w : World} {B g i : Nat} {zs : List Int} {e : Int}
theorem pnum_g (h : Rdr 99 w B g zs i e) : Calls Try.prog 36 #[.pointer (some ⟨g, 0, none⟩)] w (ReadG 99 w B g zs (fun n => .int .i64 n) (dNum zs i) e (fun n _ => I64 n)) :=
  (pnum_any h).mono fun _ _ ⟨h1, h2, h3⟩ => ⟨_, _, _, h1, h2, h3, got_num zs i e, rNumV_i64 h.oct⟩
theorem ptext_g (h : Rdr 99 w B g zs i e) (m : Int) : Calls Try.prog 80 #[.pointer (some ⟨g, 0, none⟩), .int .i64 m] w (ReadG 99 w B g zs (fun s => .string s) (dTxt zs m i) e yes) :=
  (ptext_any h m).mono fun _ _ ⟨h1, h2, h3⟩ => ⟨_, _, _, h1, h2, h3, got_txt zs m i e, trivial⟩
theorem pflag_g (h : Rdr 99 w B g zs i e) : Calls Try.prog 89 #[.pointer (some ⟨g, 0, none⟩)] w (ReadG 99 w B g zs (fun b => .bool b) (dFlg zs i) e yes) :=
  (pflag_any h).mono fun _ _ ⟨h1, h2, h3⟩ => ⟨_, _, _, h1, h2, h3, got_flg zs i e, trivial⟩
theorem pcmd_g (h : Rdr 99 w B g zs i e) : Calls Try.prog 78 #[.pointer (some ⟨g, 0, none⟩)] w (ReadG 99 w B g zs (fun c : Cm => .agg #[.int .i64 c.k, .int .i64 c.c, .int .i64 c.q, .string c.key, .string c.en, .string c.old, .string c.val]) (dCm zs i) e yes) :=
  (get_any h).mono fun _ _ ⟨h1, h2, h3⟩ => ⟨_, _, _, h1, h2, h3, got_cm zs i e, trivial⟩
theorem pattr_g (h : Rdr 99 w B g zs i e) : Calls Try.prog 79 #[.pointer (some ⟨g, 0, none⟩)] w (ReadG 99 w B g zs (fun a => .agg (cA a)) (dAt zs i) e (fun a _ => a.length = 8)) :=
  (d_get_any h).mono fun _ _ ⟨h1, h2, h3⟩ => ⟨_, _, _, h1, h2, h3, got_at zs i e, by unfold d_getV; split <;> rfl⟩
theorem rnum_g (h : Rdr 59 w B g zs i e) : Calls Try.prog 61 #[.pointer (some ⟨g, 0, none⟩)] w (ReadG 59 w B g zs (fun n => .int .i64 n) (dNum zs i) e (fun n _ => I64 n)) :=
  (rnum_to h).mono fun _ _ ⟨h1, h2, h3⟩ => ⟨_, _, _, h1, h2, h3, got_num zs i e, rNumV_i64 h.oct⟩
theorem rtext_g (h : Rdr 59 w B g zs i e) (m : Int) : Calls Try.prog 66 #[.pointer (some ⟨g, 0, none⟩), .int .i64 m] w (ReadG 59 w B g zs (fun s => .string s) (dTxt zs m i) e yes) :=
  (rtext_to h m).mono fun _ _ ⟨h1, h2, h3⟩ => ⟨_, _, _, h1, h2, h3, got_txt zs m i e, trivial⟩
theorem rflag_g (h : Rdr 59 w B g zs i e) : Calls Try.prog 71 #[.pointer (some ⟨g, 0, none⟩)] w (ReadG 59 w B g zs (fun b => .bool b) (dFlg zs i) e yes) :=
  (rflag_to h).mono fun _ _ ⟨h1, h2, h3⟩ => ⟨_, _, _, h1, h2, h3, got_flg zs i e, trivial⟩
theorem rballot_g (h : Rdr 59 w B g zs i e) : Calls Try.prog 63 #[.pointer (some ⟨g, 0, none⟩)] w (ReadG 59 w B g zs (fun p : Int × Int => .agg #[.int .i64 p.1, .int .i64 p.2]) (dBal zs i) e yes) :=
  (rgetballot_any h).mono fun _ _ ⟨h1, h2, h3⟩ => ⟨(rNumV zs i e, rNumV zs (rNumA zs i e) (rNumE zs i e)), _, _, h1, h2, h3, got_bal zs i e, trivial⟩
theorem rinst_g (h : Rdr 59 w B g zs i e) : Calls Try.prog 62 #[.pointer (some ⟨g, 0, none⟩)] w (ReadG 59 w B g zs (fun p : Int × Int => .agg #[.int .i64 p.1, .int .i64 p.2]) (dBal zs i) e yes) :=
  (rgetinst_any h).mono fun _ _ ⟨h1, h2, h3⟩ => ⟨(rNumV zs i e, rNumV zs (rNumA zs i e) (rNumE zs i e)), _, _, h1, h2, h3, got_bal zs i e, trivial⟩
end
/-! ### Stores into a cell's block -/
section
variable {ops : Array Oper} {rest : List Oper} {d : Option Tmp} {ty : TypeId} {ps : String} {af : Array Edge} {x u : Operand} {a : Act} {w w' : World} {Q : Exit → Act → World → Prop} {b o : Nat} {t : TypeId} {c y : Cl}
theorem CeAt.there (h : CeAt w b t c) (o n : Nat) (hn : o + n ≤ 21) : w.there b o n := fun j hj => by
  refine ⟨?_, h.r.free _⟩
  have hl := clC_size h.l
  rw [h.r.cell, Array.getElem?_eq_getElem (by omega)]
  rfl
theorem CeAt.put {A ys vs D : List Value} {o : Nat} (h : CeAt w b t c) (e1 : c.l = A ++ (ys ++ D)) (e2 : y.l = A ++ (vs ++ D)) (ho : A.length = o) (hl : vs.length = ys.length) (hw : y.a.length = 8) : CeAt (w.setCells b o vs) b t y := by
  refine ⟨?_, hw⟩
  have hr := Row.puts vs o h.r
  unfold clC at hr ⊢
  rw [e1, ← ho, puts_mid vs ys A D hl] at hr
  rw [e2, ← ho]
  exact hr
theorem CeAt.other {k : Nat} (h : CeAt w b t c) (hg : w.grownBy w' (some k)) (hne : b ≠ k) : CeAt w' b t c := ⟨h.r.grown hg (by simpa using hne), h.l⟩
theorem wp_store_c {op : Oper} {K : Act → World → Prop} {T : TypeId} {A ys vs D : List Value} (ho' : op.op = .store T x u) (hx : a.eval x = .pointer (some ⟨b, o, none⟩)) (hy : a.eval u = .agg vs.toArray) (L : CeAt w b t c) (e1 : c.l = A ++ (ys ++ D)) (e2 : y.l = A ++ (vs ++ D)) (ho : A.length = o) (hl : vs.length = ys.length)
    (hw : y.a.length = 8) (hi : (Try.prog.info? T).map (·.size) = some vs.length) (h1 : ∀ v, v ∈ vs → v.oneCell' = true) (h : ∀ w', CeAt w' b t y → w.grownBy w' (some b) → K (a.put op.dst undef) w') : op.wp Try.prog a w K Q := by
  have h51 : o + vs.length ≤ 21 := by
    have := Cl.len L.l
    rw [e1, List.length_append, List.length_append] at this
    omega
  refine wp_store_mid T x u ho' b o vs.toArray hx hy (L.there o _ (by rw [List.size_toArray]; exact h51)) (by rw [List.size_toArray]; exact hi) (all_oneCell_toArray h1) ?_
  exact h _ (L.put e1 e2 ho hl hw) (grown_setCells b vs o w)
theorem one_pair (p q : Int) : ∀ v, v ∈ [Value.int .i64 p, .int .i64 q] → v.oneCell' = true := fun v hv => by simp at hv; rcases hv with rfl | rfl <;> rfl
theorem wpList_store_xp {p : Int × Int} (hx : a.eval x = .pointer (some ⟨b, 1, none⟩)) (hy : a.eval u = .agg #[.int .i64 p.1, .int .i64 p.2]) (L : CeAt w b t c) (h : ∀ w', CeAt w' b t { c with p := p } → w.grownBy w' (some b) → wpList Try.prog ops Q rest (a.put d undef) w') :
    wpList Try.prog ops Q ({ dst := d, op := .store 27 x u, type := ty, pos := ps, after := af, guard := none } :: rest) a w :=
  wpList_plain rfl fun _ hK => wp_store_c (A := [.int .i64 c.st]) (ys := [.int .i64 c.p.1, .int .i64 c.p.2]) (vs := [.int .i64 p.1, .int .i64 p.2]) (D := .int .i64 c.v.1 :: .int .i64 c.v.2 :: (c.c.l ++ (cellsR c.a ++ [.bool c.s]))) (y := { c with p := p })
    rfl hx hy L rfl rfl rfl rfl L.l bal_info (one_pair _ _) fun w' h1 h2 => hK _ _ (h w' h1 h2)
theorem wpList_store_xv {p : Int × Int} (hx : a.eval x = .pointer (some ⟨b, 3, none⟩)) (hy : a.eval u = .agg #[.int .i64 p.1, .int .i64 p.2]) (L : CeAt w b t c) (h : ∀ w', CeAt w' b t { c with v := p } → w.grownBy w' (some b) → wpList Try.prog ops Q rest (a.put d undef) w') :
    wpList Try.prog ops Q ({ dst := d, op := .store 27 x u, type := ty, pos := ps, after := af, guard := none } :: rest) a w :=
  wpList_plain rfl fun _ hK => wp_store_c (A := [.int .i64 c.st, .int .i64 c.p.1, .int .i64 c.p.2]) (ys := [.int .i64 c.v.1, .int .i64 c.v.2]) (vs := [.int .i64 p.1, .int .i64 p.2]) (D := c.c.l ++ (cellsR c.a ++ [.bool c.s])) (y := { c with v := p })
    rfl hx hy L rfl rfl rfl rfl L.l bal_info (one_pair _ _) fun w' h1 h2 => hK _ _ (h w' h1 h2)
theorem wpList_store_xc {y : Cm} (hx : a.eval x = .pointer (some ⟨b, 5, none⟩)) (hy : a.eval u = .agg #[.int .i64 y.k, .int .i64 y.c, .int .i64 y.q, .string y.key, .string y.en, .string y.old, .string y.val]) (L : CeAt w b t c) (h : ∀ w', CeAt w' b t { c with c := y } → w.grownBy w' (some b) → wpList Try.prog ops Q rest (a.put d undef) w') :
    wpList Try.prog ops Q ({ dst := d, op := .store 29 x u, type := ty, pos := ps, after := af, guard := none } :: rest) a w :=
  wpList_plain rfl fun _ hK => wp_store_c (A := [.int .i64 c.st, .int .i64 c.p.1, .int .i64 c.p.2, .int .i64 c.v.1, .int .i64 c.v.2]) (ys := c.c.l) (vs := y.l) (D := cellsR c.a ++ [.bool c.s]) (y := { c with c := y })
    rfl hx hy L rfl rfl rfl rfl L.l cm_info (one_cm y) fun w' h1 h2 => hK _ _ (h w' h1 h2)
theorem wpList_store_xa {y : List Int} (hl : y.length = 8) (hx : a.eval x = .pointer (some ⟨b, 12, none⟩)) (hy : a.eval u = .agg (cA y)) (L : CeAt w b t c) (h : ∀ w', CeAt w' b t { c with a := y } → w.grownBy w' (some b) → wpList Try.prog ops Q rest (a.put d undef) w') :
    wpList Try.prog ops Q ({ dst := d, op := .store 33 x u, type := ty, pos := ps, after := af, guard := none } :: rest) a w :=
  wpList_plain rfl fun _ hK => wp_store_c (A := [.int .i64 c.st, .int .i64 c.p.1, .int .i64 c.p.2, .int .i64 c.v.1, .int .i64 c.v.2] ++ c.c.l) (ys := cellsR c.a) (vs := cellsR y) (D := [.bool c.s]) (y := { c with a := y })
    rfl hx hy L rfl rfl rfl (by rw [length_cellsR, length_cellsR, hl, L.l]) hl (by rw [length_cellsR, hl]; exact at_info) one_ints fun w' h1 h2 => hK _ _ (h w' h1 h2)
theorem wpList_store_xw (wy : y.a.length = 8) (hx : a.eval x = .pointer (some ⟨b, 0, none⟩)) (hy : a.eval u = .agg (clC y)) (L : CeAt w b t c) (h : ∀ w', CeAt w' b t y → w.grownBy w' (some b) → wpList Try.prog ops Q rest (a.put d undef) w') :
    wpList Try.prog ops Q ({ dst := d, op := .store 35 x u, type := ty, pos := ps, after := af, guard := none } :: rest) a w :=
  wpList_plain rfl fun _ hK => wp_store_c (A := []) (ys := c.l) (vs := y.l) (D := []) (y := y) rfl hx hy L (by simp) (by simp) rfl (by rw [Cl.len wy, Cl.len L.l]) wy (by rw [Cl.len wy]; exact ce_info) (one_cl y) fun w' h1 h2 => hK _ _ (h w' h1 h2)
theorem wpList_store_xs {s : Bool} (hx : a.eval x = .pointer (some ⟨b, 20, none⟩)) (hy : a.eval u = .bool s) (L : CeAt w b t c) (h : ∀ w', CeAt w' b t { c with s := s } → w.grownBy w' (some b) → wpList Try.prog ops Q rest (a.put d undef) w') :
    wpList Try.prog ops Q ({ dst := d, op := .store 4 x u, type := ty, pos := ps, after := af, guard := none } :: rest) a w :=
  wpList_plain rfl fun K hK => by
    have hz := L.s
    have hf := L.r.free 20
    have hp := L.put (y := { c with s := s }) (A := [.int .i64 c.st, .int .i64 c.p.1, .int .i64 c.p.2, .int .i64 c.v.1, .int .i64 c.v.2] ++ (c.c.l ++ cellsR c.a)) (ys := [.bool c.s]) (vs := [.bool s]) (D := []) (o := 20) (by unfold Cl.l; simp) (by unfold Cl.l; simp) (by
      have h3 : c.c.l.length = 7 := rfl
      simp only [List.length_append, length_cellsR, L.l, h3]
      rfl) rfl L.l
    have hg := grown_setCells b [.bool s] 20 w
    have h2 := hK _ _ (h _ hp hg)
    unfold Oper.wp execOp
    simp only [hx, hy]
    go_simp
    exact h2
end
theorem cl_all (x : Cl) : (clC x).all (·.oneCell') = true := all_oneCell_toArray (one_cl x)
theorem fill_c0 (st : Int) (w : World) : (Instr.build 35 #[(0, .int .i64 st)]).run Try.prog w = .ok (.agg (clC { zeroCl with st := st })) w := by kernel_rfl
theorem fill_cz (w : World) : (Instr.build 35 #[]).run Try.prog w = .ok (.agg (clC zeroCl)) w := by kernel_rfl
end Go.Proofs.Ytlnpfaoeockoiaa
/- The program's getBallot, readCell, GetCell. Conditions: the reader lies in memory as it must. -/
namespace Go.Proofs.Ytlnpfaoeockoiaa
set_option maxRecDepth 100000
open Go.RowKit
theorem readG_of {α : Type} {t : TypeId} {w w' : World} {B g : Nat} {zs : List Int} {val : α → Value} {d : Rdm α} {e : Int} {P : α → Int → Prop} {y : Ending} {v : α} {i' : Nat} {e' : Int} (hy : y = .returned (val v)) (k : Rg t w w' B g zs i' e') (hd : Got d e v i' e') (hp : P v e') : ReadG t w B g zs val d e P y w' :=
  ⟨v, i', e', hy, k.r, k.old, hd, hp⟩
theorem ne_some {a b : Nat} (h : a ≠ b) : some a ≠ some b := fun e => h (Option.some.inj e)
set_option maxHeartbeats 4000000 in
theorem pballot_g {w : World} {B g i : Nat} {zs : List Int} {e : Int} (h : Rdr 99 w B g zs i e) :
    Calls Try.prog 77 #[.pointer (some ⟨g, 0, none⟩)] w (ReadG 99 w B g zs (fun p : Int × Int => .agg #[.int .i64 p.1, .int .i64 p.2]) (dBal zs i) e yes) := by
  have S0 := hide ((Rg.start h).alloc (.cells #[.int .i64 0, .int .i64 0] 27))
  have HA := hide (Row.new w 27 #[.int .i64 0, .int .i64 0])
  have hlt := h.lt
  have HNE := hide (ne_some (show w.heap.size ≠ g by omega))
  clear h hlt
  go_enter Try.func77, Try.ntmps77
  go_upto_region 1 with (fail)
  generalize w.alloc (.cells #[.int .i64 0, .int .i64 0] 27) = w0 at S0 HA ⊢
  have HN := hide (pnum_g S0.out.r)
  go_upto_region 2 with (go_at_call 36; (with_reducible refine HN.out.mono ?_); rintro x w1 ⟨a, i1, e1, rfl, hr, hg, hd, hp⟩; have S0 := hide (S0.out.step hr hg); have HA := hide (HA.out.grown hg HNE.out); have G1 := hide hd; clear hr hg hd hp HN)
  have HN := hide (pnum_g S0.out.r)
  go_wp2_with (go_at_call 36; (with_reducible refine HN.out.mono ?_); rintro x w2 ⟨b, i2, e2, rfl, hr, hg, hd, hp⟩; have S0 := hide (S0.out.step hr hg); have HA := hide (HA.out.grown hg HNE.out); have G2 := hide hd; have a0 := HA.out.cell 0; have a1 := HA.out.cell 1; have fa0 := HA.out.free 0; have fa1 := HA.out.free 1; clear hr hg hd hp HN)
  have q1 := S0.out.put (grown_set1 w2 w.heap.size 0 (.int .i64 a)) (Nat.le_refl _)
  have q2 := q1.put (grown_set1 _ w.heap.size 1 (.int .i64 b)) (Nat.le_refl _)
  have r2 := (HA.out.put 0 (.int .i64 a)).put 1 (.int .i64 b)
  exact bodyPost_ret (results_bal Try.results77 rfl r2) rfl (readG_of (v := (a, b)) rfl q2 (G1.out.bnd (G2.out.bnd (Got.ok _ _ _))) trivial)
/-- While a cell is read: the answer's block at r, the cell's at h. -/
structure Zx (t : TypeId) (W w : World) (B g : Nat) (zs : List Int) (i : Nat) (e : Int) (r h : Nat) (x : Cl) : Prop where
  k : Rg t W w B g zs i e
  z : CeAt w r 35 zeroCl
  c : CeAt w h 35 x
  lr : W.heap.size ≤ r
  lh : r < h
section
variable {t : TypeId} {W w w' : World} {B g i i' r h : Nat} {zs : List Int} {e e' : Int} {x x' y : Cl}
theorem Zx.step (s : Zx t W w B g zs i e r h x) (hr : Rdr t w' B g zs i' e') (hg : w.grownBy w' (some g)) : Zx t W w' B g zs i' e' r h x :=
  have h1 := s.k.lt
  have h2 := s.lr
  have h3 := s.lh
  ⟨s.k.step hr hg, s.z.other hg (by omega), s.c.other hg (by omega), s.lr, s.lh⟩
theorem Zx.quiet (s : Zx t W w B g zs i e r h x) (hb : Below w.heap.size w w') : Zx t W w' B g zs i e r h x := ⟨s.k.quiet hb, s.z.kept hb, s.c.kept hb, s.lr, s.lh⟩
theorem Zx.put (s : Zx t W w B g zs i e r h x) (hc : CeAt w' h 35 x') (hg : w.grownBy w' (some h)) : Zx t W w' B g zs i e r h x' :=
  have h2 := s.lr
  have h3 := s.lh
  ⟨s.k.put hg (by omega), s.z.other hg (by omega), hc, s.lr, s.lh⟩
theorem Zx.start (s : Rg t W w B g zs i e) (hz : CeAt w r 35 zeroCl) (lr : W.heap.size ≤ r) (hx : x.a.length = 8) : Zx t W (w.alloc (.cells (clC x) 35)) B g zs i e r w.heap.size x :=
  ⟨s.alloc _, hz.kept ((Below.refl _ _).alloc (Nat.le_refl _) _), CeAt.new hx w _, lr, hz.lt⟩
theorem Zx.wrong (s : Zx t W w B g zs i e r h x) : Zx t W (w.setCell ⟨g, 2, none⟩ (.int .i64 4)) B g zs i 4 r h x :=
  have h1 := s.k.lt
  have h2 := s.lr
  have h3 := s.lh
  ⟨s.k.wrong, s.z.other (grown_set1 _ _ _ _) (by omega), s.c.other (grown_set1 _ _ _ _) (by omega), s.lr, s.lh⟩
end
set_option maxHeartbeats 8000000 in
theorem preadcell_g {w : World} {B g i : Nat} {zs : List Int} {e : Int} (h : Rdr 99 w B g zs i e) :
    Calls Try.prog 69 #[.pointer (some ⟨g, 0, none⟩)] w (ReadG 99 w B g zs (fun x => .agg (clC x)) (dCl0 zs i) e (fun x _ => x.a.length = 8)) := by
  have S0 := hide ((Rg.start h).alloc (.cells (clC zeroCl) 35))
  have HA := hide (CeAt.new (x := zeroCl) rfl w 35)
  have hlt := h.lt
  have HNE := hide (show w.heap.size ≠ g by omega)
  clear h hlt
  go_enter Try.func69, Try.ntmps69
  go_upto_region 1 with (fail)
  rw [zero_cl]
  generalize w.alloc (.cells (clC zeroCl) 35) = w0 at S0 HA ⊢
  have HN := hide (pnum_g S0.out.r)
  go_upto_region 2 with (first
    | (go_at_call 36; (with_reducible refine HN.out.mono ?_); rintro x w1 ⟨st, i1, e1, rfl, hr, hg, hd, hp⟩; have S0 := hide (S0.out.step hr hg); have HA := hide (HA.out.other hg HNE.out); have G1 := hide hd; clear hr hg hd hp HN)
    | ((with_reducible refine wpList_build_one (i := 0) (u := .int .i64 st) ?_ ?_ (fill_c0 st _) ?_); rfl; rfl)
    | ((with_reducible refine wpList_store_new (vs := clC { zeroCl with st := st }) ?_ ?_ (cl_all _) ?_ ?_ ?_); exact ce_info; rfl; rfl; rfl))
  try simp only [Act.put]
  have ZX := hide (Zx.start (x := { zeroCl with st := st }) S0.out HA.out (Nat.le_refl _) rfl)
  clear S0 HA HNE
  generalize w1.alloc (.cells (clC _) 35) = w2 at ZX ⊢
  generalize w1.heap.size = h at ZX ⊢
  have HN := hide (pballot_g ZX.out.k.r)
  go_upto_region 3 with (first
    | (go_at_call 77; (with_reducible refine HN.out.mono ?_); rintro x w3 ⟨p, i2, e2, rfl, hr, hg, hd, hp⟩; have ZX := hide (ZX.out.step hr hg); have G2 := hide hd; clear hr hg hd hp HN)
    | ((with_reducible refine wpList_store_xp (p := p) ?_ ?_ ZX.out.c ?_); rfl; rfl; intro w4 hn hg; have ZX := hide (ZX.out.put hn hg); clear hn hg))
  try simp only [Act.put]
  have c0 := ZX.out.c.st
  dsimp only at c0
  by_cases h0 : st = 0
  · subst h0
    go_wp2_with (first
      | ((with_reducible refine wpList_load_ce ZX.out.c.l ?_ ?_ ZX.out.c.all ?_); rfl; rfl)
      | ((with_reducible refine wpList_store_xw ZX.out.c.l ?_ ?_ ZX.out.z ?_); rfl; rfl; intro w5 hn hg; have HF := hide (And.intro hn (ZX.out.k.put hg ZX.out.lr)); clear hn hg))
    exact bodyPost_ret (results_ce Try.results69 rfl HF.out.1) rfl (readG_of rfl HF.out.2 (G1.out.bnd (G2.out.bnd (by rw [if_pos rfl]; exact Got.ok _ _ _))) rfl)
  · have t0 : (st == 0) = false := by simpa using h0
    have HS := hide h0
    clear h0
    go_upto_region 5 with (fail)
    clear c0 t0
    have HN := hide (pballot_g ZX.out.k.r)
    go_upto_region 6 with (first
      | (go_at_call 77; (with_reducible refine HN.out.mono ?_); rintro x w3 ⟨v, i3, e3, rfl, hr, hg, hd, hp⟩; have ZX := hide (ZX.out.step hr hg); have G3 := hide hd; clear hr hg hd hp HN)
      | ((with_reducible refine wpList_store_xv (p := v) ?_ ?_ ZX.out.c ?_); rfl; rfl; intro w4 hn hg; have ZX := hide (ZX.out.put hn hg); clear hn hg))
    try simp only [Act.put]
    have HN := hide (pcmd_g ZX.out.k.r)
    go_upto_region 7 with (first
      | (go_at_call 78; (with_reducible refine HN.out.mono ?_); rintro x w3 ⟨c, i4, e4, rfl, hr, hg, hd, hp⟩; have ZX := hide (ZX.out.step hr hg); have G4 := hide hd; clear hr hg hd hp HN)
      | ((with_reducible refine wpList_store_xc (y := c) ?_ ?_ ZX.out.c ?_); rfl; rfl; intro w4 hn hg; have ZX := hide (ZX.out.put hn hg); clear hn hg))
    try simp only [Act.put]
    have HN := hide (pattr_g ZX.out.k.r)
    go_upto_region 8 with (first
      | (go_at_call 79; (with_reducible refine HN.out.mono ?_); rintro x w3 ⟨a, i5, e5, rfl, hr, hg, hd, hp⟩; have ZX := hide (ZX.out.step hr hg); have G5 := hide hd; have HP := hide hp; clear hr hg hd hp HN)
      | ((with_reducible refine wpList_store_xa (y := a) HP.out ?_ ?_ ZX.out.c ?_); rfl; rfl; intro w4 hn hg; have ZX := hide (ZX.out.put hn hg); clear hn hg))
    try simp only [Act.put]
    have HN := hide (pflag_g ZX.out.k.r)
    go_upto_region 9 with (first
      | (go_at_call 89; (with_reducible refine HN.out.mono ?_); rintro x w3 ⟨s, i6, e6, rfl, hr, hg, hd, hp⟩; have ZX := hide (ZX.out.step hr hg); have G6 := hide hd; clear hr hg hd hp HN)
      | ((with_reducible refine wpList_store_xs (s := s) ?_ ?_ ZX.out.c ?_); rfl; rfl; intro w4 hn hg; have ZX := hide (ZX.out.put hn hg); clear hn hg))
    try simp only [Act.put]
    go_wp2_with (first
      | ((with_reducible refine wpList_load_ce ZX.out.c.l ?_ ?_ ZX.out.c.all ?_); rfl; rfl)
      | ((with_reducible refine wpList_store_xw ZX.out.c.l ?_ ?_ ZX.out.z ?_); rfl; rfl; intro w5 hn hg; have HF := hide (And.intro hn (ZX.out.k.put hg ZX.out.lr)); clear hn hg))
    exact bodyPost_ret (results_ce Try.results69 rfl HF.out.1) rfl (readG_of rfl HF.out.2 (G1.out.bnd (G2.out.bnd (by rw [if_neg HS.out]; exact G3.out.bnd (G4.out.bnd (G5.out.bnd (G6.out.bnd (Got.ok _ _ _))))))) HP.out)
/-- What GetCell answers behind an error. -/
def zeroed (x : Cl) (e : Int) : Prop := x.a.length = 8 ∧ (e ≠ 0 → x = zeroCl)
set_option maxHeartbeats 8000000 in
theorem pgetcell_g {w : World} {B g i : Nat} {zs : List Int} {e : Int} (h : Rdr 99 w B g zs i e) :
    Calls Try.prog 25 #[.pointer (some ⟨g, 0, none⟩)] w (ReadG 99 w B g zs (fun x => .agg (clC x)) (dCl zs i) e zeroed) := by
  have S0 := hide ((Rg.start h).alloc (.cells (clC zeroCl) 35))
  have HA := hide (CeAt.new (x := zeroCl) rfl w 35)
  have hlt := h.lt
  have HNE := hide (show w.heap.size ≠ g by omega)
  clear h hlt
  go_enter Try.func25, Try.ntmps25
  go_upto_region 1 with (fail)
  rw [zero_cl]
  generalize w.alloc (.cells (clC zeroCl) 35) = w0 at S0 HA ⊢
  have HN := hide (preadcell_g S0.out.r)
  go_upto_region 4 with (first
    | (go_at_call 69; (with_reducible refine HN.out.mono ?_); rintro x w1 ⟨c, i1, e1, rfl, hr, hg, hd, hp⟩; have S0 := hide (S0.out.step hr hg); have HA := hide (HA.out.other hg HNE.out); have G1 := hide (hd.chk rightCl); have HP := hide hp; clear hr hg hd hp HN)
    | ((with_reducible refine wpList_store_new (vs := clC c) ?_ ?_ (cl_all _) ?_ ?_ ?_); rw [clC_size HP.out]; exact ce_info; rw [clC_size HP.out]; rfl; rfl; rfl))
  try simp only [Act.put]
  have ZX := hide (Zx.start (x := c) S0.out HA.out (Nat.le_refl _) HP.out)
  clear S0 HA HNE
  generalize w1.alloc (.cells (clC _) 35) = w2 at ZX ⊢
  generalize w1.heap.size = h at ZX ⊢
  have HR := hide (fun w => prightcell_any c HP.out w)
  cases hq : rightCl c
  · simp only [hq, Bool.false_eq_true, if_false] at HR G1
    have HQ := hide hq
    clear hq
    have hE : rFailE e1 ≠ 0 := by unfold rFailE; split <;> omega
    have HE := hide hE
    have t0 : (rFailE e1 != 0) = true := by simpa using hE
    clear hE
    go_upto_region 5 with (first
      | ((with_reducible refine wpList_load_ce ZX.out.c.l ?_ ?_ ZX.out.c.all ?_); rfl; rfl)
      | (go_at_call 15; (with_reducible refine (HR.out _).mono ?_); rintro x w3 ⟨rfl, hb⟩; have ZX := hide (ZX.out.quiet hb); clear hb))
    have HN := hide (pfail_any ZX.out.k.r)
    go_upto_region 6 with (go_at_call 70; (with_reducible refine HN.out.mono ?_); rintro x w4 ⟨rfl, hr, hg⟩; have ZX := hide (ZX.out.step hr hg); clear hr hg HN)
    have HN := hide (pwrong_any ZX.out.k.r)
    go_wp2_with (first
      | (go_at_call 27; (with_reducible refine HN.out.mono ?_); rintro x w5 ⟨rfl, rfl⟩)
      | ((with_reducible refine wpList_build_no ?_ (fill_cz _) ?_); rfl)
      | ((with_reducible refine wpList_store_xw (y := zeroCl) rfl ?_ ?_ ZX.out.z ?_); rfl; rfl; intro w6 hn hg; have HF := hide (And.intro hn (ZX.out.k.put hg ZX.out.lr)); clear hn hg))
    exact bodyPost_ret (results_ce Try.results25 rfl HF.out.1) rfl (readG_of rfl HF.out.2 (G1.out.swap (fun h => absurd h HE.out)) ⟨rfl, fun _ => rfl⟩)
  · simp only [hq, if_true] at HR G1
    have HQ := hide hq
    clear hq
    by_cases hE : e1 = 0
    · subst hE
      go_upto_region 6 with (first
        | ((with_reducible refine wpList_load_ce ZX.out.c.l ?_ ?_ ZX.out.c.all ?_); rfl; rfl)
        | (go_at_call 15; (with_reducible refine (HR.out _).mono ?_); rintro x w3 ⟨rfl, hb⟩; have ZX := hide (ZX.out.quiet hb); clear hb))
      have HN := hide (pwrong_any ZX.out.k.r)
      go_wp2_with (first
        | (go_at_call 27; (with_reducible refine HN.out.mono ?_); rintro x w5 ⟨rfl, rfl⟩)
        | ((with_reducible refine wpList_load_ce ZX.out.c.l ?_ ?_ ZX.out.c.all ?_); rfl; rfl)
        | ((with_reducible refine wpList_store_xw (y := c) ZX.out.c.l ?_ ?_ ZX.out.z ?_); rfl; rfl; intro w6 hn hg; have HF := hide (And.intro hn (ZX.out.k.put hg ZX.out.lr)); clear hn hg))
      exact bodyPost_ret (results_ce Try.results25 rfl HF.out.1) rfl (readG_of rfl HF.out.2 G1.out ⟨HP.out, fun h => absurd rfl h⟩)
    · have t0 : (e1 != 0) = true := by simpa using hE
      have HE := hide hE
      clear hE
      go_upto_region 6 with (first
        | ((with_reducible refine wpList_load_ce ZX.out.c.l ?_ ?_ ZX.out.c.all ?_); rfl; rfl)
        | (go_at_call 15; (with_reducible refine (HR.out _).mono ?_); rintro x w3 ⟨rfl, hb⟩; have ZX := hide (ZX.out.quiet hb); clear hb))
      have HN := hide (pwrong_any ZX.out.k.r)
      go_wp2_with (first
        | (go_at_call 27; (with_reducible refine HN.out.mono ?_); rintro x w5 ⟨rfl, rfl⟩)
        | ((with_reducible refine wpList_build_no ?_ (fill_cz _) ?_); rfl)
        | ((with_reducible refine wpList_store_xw (y := zeroCl) rfl ?_ ?_ ZX.out.z ?_); rfl; rfl; intro w6 hn hg; have HF := hide (And.intro hn (ZX.out.k.put hg ZX.out.lr)); clear hn hg))
      exact bodyPost_ret (results_ce Try.results25 rfl HF.out.1) rfl (readG_of rfl HF.out.2 (G1.out.swap (fun h => absurd h HE.out)) ⟨rfl, fun _ => rfl⟩)
end Go.Proofs.Ytlnpfaoeockoiaa
