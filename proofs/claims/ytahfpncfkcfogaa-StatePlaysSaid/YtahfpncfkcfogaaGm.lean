/- A state loaded, stored, built in regions that draw; one of its owners stored. No condition: nothing here speaks of a function. -/
import Derived.Test.YtahfpncfkcfogaaGl
import Derived.Test.YtahfpncfkcfogaaGf
namespace Go.Proofs.Ytahfpncfkcfogaa
set_option maxRecDepth 100000
open Go.RowKit
theorem exec_load49 {o : Oper} {a : Act} {w : World} {x : Operand} {b : Nat} {t : TypeId} {p : Value} {L : List Co} (ho : o.op = .load 30 x) (hx : a.eval x = .pointer (some ⟨b, 0, none⟩)) (R : Row w b t (stc p L)) (hl : L.length = 8) :
    (execOp a.eval o).run Try.prog w = .ok (.value (.agg (stc p L))) w := by
  unfold execOp
  simp only [ho, hx, Sem.run_bind, Sem.run_pure, load_state R hl, Result.andThen_ok]
theorem yields_load49 {ops : Array Oper} {S : World → Prop} {o : Oper} {a : Act} {x : Operand} {b : Nat} {t : TypeId} {p : Value} {L : List Co} (hw : Region.wanted o (yielded ops a.tmps) = true) (ho : o.op = .load 30 x) (hx : a.eval x = .pointer (some ⟨b, 0, none⟩)) (hl : L.length = 8) (hS : ∀ w, S w → Row w b t (stc p L)) :
    YieldsIf Try.prog ops S o (.agg (stc p L)) a := .inl ⟨hw, fun w h => exec_load49 ho hx (hS w h) hl⟩
theorem exec_load8of {o : Oper} {a : Act} {w : World} {x : Operand} {b : Nat} {t : TypeId} {p : Value} {L : List Co} (ho : o.op = .load 28 x) (hx : a.eval x = .pointer (some ⟨b, 1, none⟩)) (R : Row w b t (stc p L)) (hl : L.length = 8) :
    (execOp a.eval o).run Try.prog w = .ok (.value (.agg (arr L))) w := by
  unfold execOp
  simp only [ho, hx, Sem.run_bind, Sem.run_pure, load_owners R hl, Result.andThen_ok]
theorem yields_load8of {ops : Array Oper} {S : World → Prop} {o : Oper} {a : Act} {x : Operand} {b : Nat} {t : TypeId} {p : Value} {L : List Co} (hw : Region.wanted o (yielded ops a.tmps) = true) (ho : o.op = .load 28 x) (hx : a.eval x = .pointer (some ⟨b, 1, none⟩)) (hl : L.length = 8) (hS : ∀ w, S w → Row w b t (stc p L)) :
    YieldsIf Try.prog ops S o (.agg (arr L)) a := .inl ⟨hw, fun w h => exec_load8of ho hx (hS w h) hl⟩
theorem step_store49 {ops : Array Oper} {d : Option Tmp} {ty : TypeId} {ps : String} {af : Array Edge} {x y : Operand} {a : Act} {w : World} {K : Act → World → Prop} {Q : Exit → Act → World → Prop} {E : Prop} {b : Nat} {t : TypeId} {p q : Value} {L M : List Co}
    (hx : a.eval x = .pointer (some ⟨b, 0, none⟩)) (hy : a.eval y = .agg (stc q M)) (hq : q.oneCell' = true) (R : Row w b t (stc p L)) (hl : L.length = 8) (hm : M.length = 8)
    (h : K (a.put d undef) (w.setRow b (stc q M))) :
    if Region.wanted ({ dst := d, op := .store 30 x y, type := ty, pos := ps, after := af, guard := none } : Oper) (yielded ops a.tmps) = true then Oper.wp Try.prog { dst := d, op := .store 30 x y, type := ty, pos := ps, after := af, guard := none } a w K Q else E := by
  rw [if_pos (by simp [Region.wanted])]
  unfold Oper.wp execOp
  simp only [hx, hy, Instr.storeAt, Instr.sureAddr, Sem.run_bind, Sem.run_pure, Result.andThen_ok, run_storeVar_row _ b t 30 _ _ R (show _ = some (stc q M).size by rw [stc_size q hm]; exact info_state) (by rw [stc_size p hl, stc_size q hm]) (stc_one hq)]
  exact h
/-- An owner is stored into a state. -/
theorem run_storeO49 {w : World} {b k : Nat} {t : TypeId} {p : Value} {L : List Co} {o o' : Co} (R : Row w b t (stc p L)) (hl : L.length = 8) (ho : L[k]? = some o) :
    (storeVar 27 ⟨b, 1 + k * 6, none⟩ (.agg #[.int .i64 o'.o.s, .int .i64 o'.o.r.why, .bool o'.o.r.fnd, .string o'.o.r.val, .int .i64 o'.o.r.ver, .slice o'.A o'.o.r.l.length o'.c])).run Try.prog w = .ok () (w.setRow b (stc p (L.set k o'))) := by
  have h6 := six_fit ho hl
  have hz := arr_size hl
  have hs := run_storeCells_at Try.prog b (1 + k * 6) t o'.cs 0 (stc p L) w R (by rw [stc_size p hl]; simp only [Co.cs, List.length_cons, List.length_nil]; omega) (by intro u hu; simp [Co.cs, Co.p] at hu; rcases hu with rfl | rfl | rfl | rfl | rfl | rfl <;> rfl)
  rw [Nat.add_zero, show o'.cs.length = 6 from rfl, stc_set p ho o'] at hs
  have hi : (Try.prog.info? 27).map (·.size) = some 6 := by kernel_rfl
  cases hq : Try.prog.info? 27 with
  | none => simp [hq] at hi
  | some i =>
    have hs6 : i.size = 6 := by simpa [hq] using hi
    simp only [Co.cs, Co.p] at hs
    simp [storeVar, sizeOf, typeInfo, hq, Value.cells, hs6, hs]
theorem step_storeO49 {ops : Array Oper} {d : Option Tmp} {ty : TypeId} {ps : String} {af : Array Edge} {x y : Operand} {a : Act} {w : World} {K : Act → World → Prop} {Q : Exit → Act → World → Prop} {E : Prop} {b k : Nat} {t : TypeId} {p : Value} {L : List Co} {o o' : Co}
    (hx : a.eval x = .pointer (some ⟨b, 1 + k * 6, none⟩)) (hy : a.eval y = .agg #[.int .i64 o'.o.s, .int .i64 o'.o.r.why, .bool o'.o.r.fnd, .string o'.o.r.val, .int .i64 o'.o.r.ver, .slice o'.A o'.o.r.l.length o'.c]) (R : Row w b t (stc p L)) (hl : L.length = 8) (ho : L[k]? = some o)
    (h : K (a.put d undef) (w.setRow b (stc p (L.set k o')))) :
    if Region.wanted ({ dst := d, op := .store 27 x y, type := ty, pos := ps, after := af, guard := none } : Oper) (yielded ops a.tmps) = true then Oper.wp Try.prog { dst := d, op := .store 27 x y, type := ty, pos := ps, after := af, guard := none } a w K Q else E := by
  rw [if_pos (by simp [Region.wanted])]
  unfold Oper.wp execOp
  simp only [hx, hy, Instr.storeAt, Instr.sureAddr, Sem.run_bind, Sem.run_pure, Result.andThen_ok, run_storeO49 R hl ho]
  exact h
/-- A state is stored into the block made last. -/
theorem wpList_store49n {ops : Array Oper} {rest : List Oper} {d : Option Tmp} {ty : TypeId} {ps : String} {af : Array Edge} {x y : Operand} {a : Act} {w : World} {Q : Exit → Act → World → Prop} {q : Value} {M : List Co}
    (hx : a.eval x = .pointer (some ⟨w.heap.size, 0, none⟩)) (hy : a.eval y = .agg (stc q M)) (hq : q.oneCell' = true) (hm : M.length = 8)
    (h : wpList Try.prog ops Q rest (a.put d undef) (w.alloc (.cells (stc q M) 30))) :
    wpList Try.prog ops Q ({ dst := d, op := .store 30 x y, type := ty, pos := ps, after := af, guard := none } :: rest) a (w.alloc (.cells #[.slice none 0 0, .int .i64 0, .int .i64 0, .bool false, .string { data := #[] }, .int .i64 0, .slice none 0 0, .int .i64 0, .int .i64 0, .bool false, .string { data := #[] }, .int .i64 0, .slice none 0 0, .int .i64 0, .int .i64 0, .bool false, .string { data := #[] }, .int .i64 0, .slice none 0 0, .int .i64 0, .int .i64 0, .bool false, .string { data := #[] }, .int .i64 0, .slice none 0 0, .int .i64 0, .int .i64 0, .bool false, .string { data := #[] }, .int .i64 0, .slice none 0 0, .int .i64 0, .int .i64 0, .bool false, .string { data := #[] }, .int .i64 0, .slice none 0 0, .int .i64 0, .int .i64 0, .bool false, .string { data := #[] }, .int .i64 0, .slice none 0 0, .int .i64 0, .int .i64 0, .bool false, .string { data := #[] }, .int .i64 0, .slice none 0 0] 30)) := by
  rw [zero_state]
  refine wpList_store49 hx hy hq (Row.new w _ (stc (.slice none 0 0) zeroL)) rfl hm ?_
  rw [World.setRow_alloc_new]
  exact h
theorem fill_eight2 {p : Value} {L : List Co} (h : L.length = 8) (z : Array Value) (hz : z.size = 49) (h0 : z.toList.take 1 = [p]) : (arr L).zipIdx.foldl (fun cs x => cs.setIfInBounds (1 + x.2) x.1) z = stc p L := by
  rw [← Array.foldl_toList, Array.toList_zipIdx, fill_list 1 (arr L).toList 0 z (by rw [Array.length_toList, arr_size h, hz]; omega), Nat.add_zero, h0, List.drop_of_length_le (by rw [Array.length_toList, Array.length_toList, arr_size h, hz]; omega)]
  unfold stc
  apply Array.toList_inj.1
  simp
theorem fill_owners {p : Value} {L : List Co} (h : L.length = 8) (z : Array Value) (hz : z.size = 49) (h0 : z.toList.take 1 = [p]) : Instr.fill (fun x => ([(0, 1), (1, 48)] : List (Nat × Nat))[x]?) z [(1, .agg (arr L))] = some (stc p L) := by
  have e := fill_eight2 h z hz h0
  have hs := arr_size h
  unfold Instr.fill
  simp only [List.getElem?_cons_succ, List.getElem?_cons_zero, Value.cells]
  refine (if_neg (fun hc => ?_)).trans ?_
  · have hc : (decide ((arr L).size ≠ 48) || decide (1 + (arr L).size > z.size)) = true := hc
    rw [hs, hz] at hc
    exact absurd hc (by decide)
  · unfold Instr.fill
    exact congrArg some e
theorem fill_both {A : Option Addr} {n c : Nat} {L : List Co} (h : L.length = 8) (z : Array Value) (hz : z.size = 49) : Instr.fill (fun x => ([(0, 1), (1, 48)] : List (Nat × Nat))[x]?) (Value.agg z).cells [(0, .slice A n c), (1, .agg (arr L))] = some (stc (.slice A n c) L) := by
  unfold Instr.fill
  simp only [List.getElem?_cons_zero, Value.cells]
  refine (if_neg (fun hc => ?_)).trans ?_
  · have hc : (decide ((#[Value.slice A n c] : Array Value).size ≠ 1) || decide (0 + (#[Value.slice A n c] : Array Value).size > z.size)) = true := hc
    rw [hz] at hc
    simp at hc
  · have e : (#[Value.slice A n c] : Array Value).zipIdx.foldl (fun cs x => cs.setIfInBounds (0 + x.2) x.1) z = z.setIfInBounds 0 (.slice A n c) := rfl
    rw [e]
    refine fill_owners h _ (by rw [Array.size_setIfInBounds]; exact hz) ?_
    rw [Array.toList_setIfInBounds]
    obtain ⟨l⟩ := z
    cases l with
    | nil => cases hz
    | cons a l => rfl
theorem exec_both {o : Oper} {a : Act} {w : World} {x y : Operand} {A : Option Addr} {n c : Nat} {L : List Co} (ho : o.op = .build 30 #[(0, x), (1, y)]) (hx : a.eval x = .slice A n c) (hy : a.eval y = .agg (arr L)) (hl : L.length = 8) :
    (execOp a.eval o).run Try.prog w = .ok (.value (.agg (stc (.slice A n c) L))) w := by
  have hf := fill_both (A := A) (n := n) (c := c) hl #[.slice none 0 0, .int .i64 0, .int .i64 0, .bool false, .string { data := #[] }, .int .i64 0, .slice none 0 0, .int .i64 0, .int .i64 0, .bool false, .string { data := #[] }, .int .i64 0, .slice none 0 0, .int .i64 0, .int .i64 0, .bool false, .string { data := #[] }, .int .i64 0, .slice none 0 0, .int .i64 0, .int .i64 0, .bool false, .string { data := #[] }, .int .i64 0, .slice none 0 0, .int .i64 0, .int .i64 0, .bool false, .string { data := #[] }, .int .i64 0, .slice none 0 0, .int .i64 0, .int .i64 0, .bool false, .string { data := #[] }, .int .i64 0, .slice none 0 0, .int .i64 0, .int .i64 0, .bool false, .string { data := #[] }, .int .i64 0, .slice none 0 0, .int .i64 0, .int .i64 0, .bool false, .string { data := #[] }, .int .i64 0, .slice none 0 0] rfl
  unfold execOp
  simp only [ho]
  simp [Instr.build, hx, hy]
  rw [hf]
  rfl
theorem yields_both {ops : Array Oper} {S : World → Prop} {o : Oper} {a : Act} {x y : Operand} {A : Option Addr} {n c : Nat} {L : List Co} (hw : Region.wanted o (yielded ops a.tmps) = true) (ho : o.op = .build 30 #[(0, x), (1, y)]) (hx : a.eval x = .slice A n c) (hy : a.eval y = .agg (arr L)) (hl : L.length = 8) :
    YieldsIf Try.prog ops S o (.agg (stc (.slice A n c) L)) a := .inl ⟨hw, fun _ _ => exec_both ho hx hy hl⟩
theorem results_sr {fn : Func} {tmps : Array Value} {w : World} {a b h g : Nat} {t t' : TypeId} {p : Value} {M : List Co} {c0 c1 c2 c3 c4 : Value} (hf : fn.results = #[.cell a 30, .cell b 25]) (ht : tmps[a]? = some (.pointer (some ⟨h, 0, none⟩))) (hr : Row w h t (stc p M)) (hl : M.length = 8) (hb : tmps[b]? = some (.pointer (some ⟨g, 0, none⟩))) (hg : Row w g t' #[c0, c1, c2, c3, c4]) :
    (results fn tmps).run Try.prog w = .ok (.tuple #[.agg (stc p M), .agg #[c0, c1, c2, c3, c4]]) w := by
  have hld := run_loadVar_row w h t 30 (stc p M) (0, 0) _ hr under_state rfl (by rw [stc_size p hl]; exact info_state)
  have hld2 : (loadVar 25 ⟨g, 0, none⟩).run Try.prog w = .ok (.agg #[c0, c1, c2, c3, c4]) w := run_loadVar_row w g t' 25 #[c0, c1, c2, c3, c4] (0, 0) (.struct (Try.prog.fieldsOf 25)) hg (by kernel_rfl) rfl (show (Try.prog.info? 25).map (·.size) = some 5 by kernel_rfl)
  simp only [results, hf]
  simp [asAddr, ht, hb, hld, hld2]
end Go.Proofs.Ytahfpncfkcfogaa
/- What a call that answers a state and a reply has in memory; what it answers. No condition: nothing here speaks of a function. -/
namespace Go.Proofs.Ytahfpncfkcfogaa
set_option maxRecDepth 100000
open Go.RowKit
def OffS (k : Nat) (p : Value) (M : List Co) : Prop := Off p k ∧ ∀ x, x ∈ M → Off x.p k
theorem NewS.offNew {b k : Nat} {w : World} {p : Value} {M : List Co} {s : Sm} (h : NewS b w p M s) (hk : k < b) : OffS k p M := ⟨h.pin.offNew hk, fun x hx => (h.own x hx).1.offNew hk⟩
theorem NewS.offOld {b k : Nat} {w : World} {p : Value} {M : List Co} {s : Sm} (h : NewS b w p M s) (hk : w.heap.size ≤ k) : OffS k p M := ⟨h.pin.offOld hk, fun x hx => (h.own x hx).1.offOld hk⟩
theorem NewS.grownOff {b k : Nat} {w w' : World} {p : Value} {M : List Co} {s : Sm} (h : NewS b w p M s) (hg : w.grownBy w' (some k)) (ho : OffS k p M) : NewS b w' p M s :=
  ⟨h.pin.grownOff hg ho.1, h.room, h.eight, fun x hx => ⟨(h.own x hx).1.grownOff hg (ho.2 x hx), (h.own x hx).2⟩, h.is⟩
theorem NewS.one {b : Nat} {w : World} {p : Value} {M : List Co} {s : Sm} (h : NewS b w p M s) : p.oneCell' = true := by
  obtain ⟨A, c, e, _⟩ := h.pin.pin
  rw [e]; rfl
theorem NewS.putOff5 {b g : Nat} {w : World} {p : Value} {M : List Co} {s : Sm} (h : NewS b w p M s) (ho : OffS g p M) (u0 u1 u2 u3 u4 : Value) : NewS b (((((w.setCell ⟨g, 0, none⟩ u0).setCell ⟨g, 1, none⟩ u1).setCell ⟨g, 2, none⟩ u2).setCell ⟨g, 3, none⟩ u3).setCell ⟨g, 4, none⟩ u4) p M s :=
  ((((h.grownOff (grown_setCell _ g 0 _) ho).grownOff (grown_setCell _ g 1 _) ho).grownOff (grown_setCell _ g 2 _) ho).grownOff (grown_setCell _ g 3 _) ho).grownOff (grown_setCell _ g 4 _) ho
/-- A state and a reply are answered, in new memory; if T, the reply's pairs apart from the state. -/
def AnsS (T : Bool) (w : World) (x : Sm × Re) (e : Ending) (w' : World) : Prop :=
  ∃ p M q, e = .returned (.tuple #[.agg (stc p M), .agg #[.int .i64 x.2.why, .bool x.2.fnd, .string x.2.val, .int .i64 x.2.ver, q]]) ∧ NewS w.heap.size w' p M x.1 ∧ Mine w.heap.size w' q x.2.l ∧ x.2.l.length ≤ 3518437208780 ∧
    (T = true → ∀ k, q.ownBlock = some k → OffS k p M) ∧ Below w.heap.size w w'
/-- The four blocks that the call begins with. -/
structure B1 (W w : World) (p : Value) (L : List Co) (x : Cm) : Prop where
  rs : Row w W.heap.size 30 (stc p L)
  rc : Row w (W.heap.size + 1) 35 (rowC x)
  rz : Row w (W.heap.size + 1 + 1) 30 (stc (.slice none 0 0) zeroL)
  rr : Row w (W.heap.size + 1 + 1 + 1) 25 (reV zeroR (.slice none 0 0))
  bel : Below W.heap.size W w
theorem B1.new (w : World) (p : Value) (L : List Co) (x : Cm) : B1 w ((((w.alloc (.cells (stc p L) 30)).alloc (.cells (rowC x) 35)).alloc (.cells (stc (.slice none 0 0) zeroL) 30)).alloc (.cells (reV zeroR (.slice none 0 0)) 25)) p L x := by
  have r0 := Row.new w 30 (stc p L)
  have b0 := kept_alloc (kept_refl w) (.cells (stc p L) 30)
  have s0 : (w.alloc (.cells (stc p L) 30)).heap.size = w.heap.size + 1 := by simp
  generalize w.alloc (.cells (stc p L) 30) = w1 at *
  have r1 := Row.new w1 35 (rowC x)
  have b1 := kept_alloc b0 (.cells (rowC x) 35)
  have r01 := r0.alloc (.cells (rowC x) 35)
  have s1 : (w1.alloc (.cells (rowC x) 35)).heap.size = w.heap.size + 1 + 1 := by simp [s0]
  rw [s0] at r1
  generalize w1.alloc (.cells (rowC x) 35) = w2 at *
  have r2 := Row.new w2 30 (stc (.slice none 0 0) zeroL)
  have b2 := kept_alloc b1 (.cells (stc (.slice none 0 0) zeroL) 30)
  have r02 := r01.alloc (.cells (stc (.slice none 0 0) zeroL) 30)
  have r12 := r1.alloc (.cells (stc (.slice none 0 0) zeroL) 30)
  have s2 : (w2.alloc (.cells (stc (.slice none 0 0) zeroL) 30)).heap.size = w.heap.size + 1 + 1 + 1 := by simp [s1]
  rw [s1] at r2
  generalize w2.alloc (.cells (stc (.slice none 0 0) zeroL) 30) = w3 at *
  have r3 := Row.new w3 25 (reV zeroR (.slice none 0 0))
  rw [s2] at r3
  exact ⟨r02.alloc _, r12.alloc _, r2.alloc _, r3, kept_alloc b2 _⟩
theorem B1.below {W w w' : World} {p : Value} {L : List Co} {x : Cm} (h : B1 W w p L x) (hb : Below w.heap.size w w') : B1 W w' p L x := ⟨h.rs.below hb h.rs.lt, h.rc.below hb h.rc.lt, h.rz.below hb h.rz.lt, h.rr.below hb h.rr.lt, h.bel.trans (hb.mono h.bel.size)⟩
/-- Ready to be answered: a state, a reply. -/
structure Fin (T : Bool) (W w : World) (p : Value) (M : List Co) (s : Sm) (r : Re) (q : Value) : Prop where
  rz : Row w (W.heap.size + 1 + 1) 30 (stc (.slice none 0 0) zeroL)
  rr : Row w (W.heap.size + 1 + 1 + 1) 25 (reV zeroR (.slice none 0 0))
  bel : Below W.heap.size W w
  n : NewS W.heap.size w p M s
  o2 : OffS (W.heap.size + 1 + 1) p M
  o3 : OffS (W.heap.size + 1 + 1 + 1) p M
  hq : Mine W.heap.size w q r.l
  ln : r.l.length ≤ 3518437208780
  q2 : Off q (W.heap.size + 1 + 1)
  q3 : Off q (W.heap.size + 1 + 1 + 1)
  ap : T = true → ∀ k, q.ownBlock = some k → OffS k p M
section
variable {T : Bool} {W w w' : World} {p : Value} {M L : List Co} {s : Sm} {r : Re} {q v : Value} {x : Cm} {b b' : Nat}
theorem B1.fin (h : B1 W w v L x) (hn : NewS b w p M s) (hb : W.heap.size + 1 + 1 + 1 < b) (hq : Mine b' w q r.l) (hb' : W.heap.size + 1 + 1 + 1 < b') (ln : r.l.length ≤ 3518437208780) (ap : T = true → ∀ k, q.ownBlock = some k → OffS k p M) : Fin T W w p M s r q :=
  ⟨h.rz, h.rr, h.bel, hn.mono (by omega), hn.offNew (by omega), hn.offNew (by omega), hq.mono (by omega), ln, hq.offNew (by omega), hq.offNew (by omega), ap⟩
theorem B1.fin0 (h : B1 W w v L x) (hn : NewS b w p M s) (hb : W.heap.size + 1 + 1 + 1 < b) (hl : r.l = []) : Fin T W w p M s r (.slice none 0 0) :=
  ⟨h.rz, h.rr, h.bel, hn.mono (by omega), hn.offNew (by omega), hn.offNew (by omega), by rw [hl]; exact Mine.nil_ _ _, by rw [hl]; exact Nat.zero_le _, Off.nil_ _, Off.nil_ _, fun _ k e => by cases e⟩
theorem Fin.below (h : Fin T W w p M s r q) (hb : Below w.heap.size w w') : Fin T W w' p M s r q :=
  ⟨h.rz.below hb h.rz.lt, h.rr.below hb h.rr.lt, h.bel.trans (hb.mono h.bel.size), h.n.below hb, h.o2, h.o3, h.hq.below hb, h.ln, h.q2, h.q3, h.ap⟩
/-- Behind the state's store. -/
theorem Fin.set (h : Fin T W w p M s r q) : Row (w.setRow (W.heap.size + 1 + 1) (stc p M)) (W.heap.size + 1 + 1) 30 (stc p M) ∧ Row (w.setRow (W.heap.size + 1 + 1) (stc p M)) (W.heap.size + 1 + 1 + 1) 25 (reV zeroR (.slice none 0 0)) :=
  ⟨h.rz.setRow _, h.rr.setRow_other (by omega) _⟩
theorem Fin.cells (h : Fin T W w p M s r q) : ((w.setRow (W.heap.size + 1 + 1) (stc p M)).cell? ⟨W.heap.size + 1 + 1 + 1, 0, none⟩ = some (.int .i64 0) ∧ (w.setRow (W.heap.size + 1 + 1) (stc p M)).cell? ⟨W.heap.size + 1 + 1 + 1, 1, none⟩ = some (.bool false) ∧ (w.setRow (W.heap.size + 1 + 1) (stc p M)).cell? ⟨W.heap.size + 1 + 1 + 1, 2, none⟩ = some (.string { data := #[] }) ∧ (w.setRow (W.heap.size + 1 + 1) (stc p M)).cell? ⟨W.heap.size + 1 + 1 + 1, 3, none⟩ = some (.int .i64 0) ∧ (w.setRow (W.heap.size + 1 + 1) (stc p M)).cell? ⟨W.heap.size + 1 + 1 + 1, 4, none⟩ = some (.slice none 0 0)) ∧
    (w.setRow (W.heap.size + 1 + 1) (stc p M)).frozen? ⟨W.heap.size + 1 + 1 + 1, 0, none⟩ = false ∧ (w.setRow (W.heap.size + 1 + 1) (stc p M)).frozen? ⟨W.heap.size + 1 + 1 + 1, 1, none⟩ = false ∧ (w.setRow (W.heap.size + 1 + 1) (stc p M)).frozen? ⟨W.heap.size + 1 + 1 + 1, 2, none⟩ = false ∧ (w.setRow (W.heap.size + 1 + 1) (stc p M)).frozen? ⟨W.heap.size + 1 + 1 + 1, 3, none⟩ = false ∧ (w.setRow (W.heap.size + 1 + 1) (stc p M)).frozen? ⟨W.heap.size + 1 + 1 + 1, 4, none⟩ = false :=
  ⟨h.set.2.five, h.set.2.free 0, h.set.2.free 1, h.set.2.free 2, h.set.2.free 3, h.set.2.free 4⟩
/-- The world behind both stores. -/
def finW (W w : World) (p : Value) (M : List Co) (r : Re) (q : Value) : World := (((((w.setRow (W.heap.size + 1 + 1) (stc p M)).setCell ⟨W.heap.size + 1 + 1 + 1, 0, none⟩ (.int .i64 r.why)).setCell ⟨W.heap.size + 1 + 1 + 1, 1, none⟩ (.bool r.fnd)).setCell ⟨W.heap.size + 1 + 1 + 1, 2, none⟩ (.string r.val)).setCell ⟨W.heap.size + 1 + 1 + 1, 3, none⟩ (.int .i64 r.ver)).setCell ⟨W.heap.size + 1 + 1 + 1, 4, none⟩ q
theorem Fin.row2 (h : Fin T W w p M s r q) : Row (finW W w p M r q) (W.heap.size + 1 + 1) 30 (stc p M) := by
  unfold finW
  exact ((((h.set.1.putOff (by omega) _).putOff (by omega) _).putOff (by omega) _).putOff (by omega) _).putOff (by omega) _
theorem Fin.row3 (h : Fin T W w p M s r q) : Row (finW W w p M r q) (W.heap.size + 1 + 1 + 1) 25 #[.int .i64 r.why, .bool r.fnd, .string r.val, .int .i64 r.ver, q] := h.set.2.five_put _ _ _ _ _
theorem Fin.ans (h : Fin T W w p M s r q) : AnsS T W (s, r) (.returned (.tuple #[.agg (stc p M), .agg #[.int .i64 r.why, .bool r.fnd, .string r.val, .int .i64 r.ver, q]])) (finW W w p M r q) :=
  ⟨p, M, q, rfl, (h.n.grownOff (setRow_grown _ _ _) h.o2).putOff5 h.o3 _ _ _ _ _, (h.hq.grownOff (setRow_grown _ _ _) h.q2).putOff5 h.q3 _ _ _ _ _, h.ln, h.ap, below_put5 (below_setRow h.bel (by omega) _) (by omega) _ _ _ _ _⟩
end
theorem run_len (l : List Pr) (c : Cm) : (runP l c).2.l.length ≤ 8 := by
  unfold runP
  split
  · exact Nat.zero_le _
  split
  · split
    · exact Nat.zero_le _
    · exact Nat.zero_le _
  split
  · exact Nat.zero_le _
  split
  · split
    · exact Nat.zero_le _
    · exact Nat.zero_le _
  · show (rngP l c.key c.en).length ≤ 8
    unfold rngP; rw [List.length_take]; omega
end Go.Proofs.Ytahfpncfkcfogaa
