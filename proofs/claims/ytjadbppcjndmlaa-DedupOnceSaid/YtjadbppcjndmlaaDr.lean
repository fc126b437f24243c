/- Regions that draw their order and load or store eight owners. No condition: nothing here speaks of a function. -/
import Derived.Test.YtjadbppcjndmlaaIs
import Derived.Test.YtjadbppcjndmlaaSp
import Derived.Test.YtjadbppcjndmlaaTl
namespace Go.Proofs.Ytjadbppcjndmlaa
open Go.RowKit
theorem exec_load8 {o : Oper} {a : Act} {w : World} {x : Operand} {b : Nat} {t : TypeId} {L : List Co} (ho : o.op = .load 28 x) (hx : a.eval x = .pointer (some ⟨b, 0, none⟩)) (R : Row w b t (arr L)) (hl : L.length = 8) :
    (execOp a.eval o).run Try.prog w = .ok (.value (.agg (arr L))) w := by
  unfold execOp
  simp only [ho, hx, Sem.run_bind, Sem.run_pure, load_eight R hl, Result.andThen_ok]
/-- It may go first where all worlds at hand have them. -/
theorem yields_load8 {ops : Array Oper} {S : World → Prop} {o : Oper} {a : Act} {x : Operand} {b : Nat} {t : TypeId} {L : List Co} (hw : Region.wanted o (yielded ops a.tmps) = true) (ho : o.op = .load 28 x) (hx : a.eval x = .pointer (some ⟨b, 0, none⟩)) (hl : L.length = 8) (hS : ∀ w, S w → Row w b t (arr L)) :
    YieldsIf Try.prog ops S o (.agg (arr L)) a := .inl ⟨hw, fun w h => exec_load8 ho hx (hS w h) hl⟩
/-- In a quiet region. -/
theorem wpQuiet_load8 {ops : Array Oper} {rest : List Oper} {d : Option Tmp} {ty : TypeId} {ps : String} {af : Array Edge} {gd : Option (Nat × Bool)} {x : Operand} {a : Act} {S : World → Prop} {Q : Act → Prop} {b : Nat} {t : TypeId} {L : List Co}
    (hw : Region.wanted ({ dst := d, op := .load 28 x, type := ty, pos := ps, after := af, guard := gd } : Oper) (yielded ops a.tmps) = true) (hx : a.eval x = .pointer (some ⟨b, 0, none⟩)) (hS : ∀ k : Sp S, Row k.w b t (arr L)) (hl : L.length = 8)
    (h : wpQuiet Try.prog ops (fun w' => ∃ k : Sp S, w' = k.w) Q rest (a.put d (.agg (arr L)))) :
    wpQuiet Try.prog ops (fun w' => ∃ k : Sp S, w' = k.w) Q ({ dst := d, op := .load 28 x, type := ty, pos := ps, after := af, guard := gd } :: rest) a := by
  unfold wpQuiet
  rw [if_pos hw]
  refine ⟨.agg (arr L), ?_, h⟩
  rintro w ⟨k, rfl⟩
  unfold Oper.quietAt
  rw [exec_load8 (o := { dst := d, op := .load 28 x, type := ty, pos := ps, after := af, guard := gd }) rfl hx (hS k) hl]
  exact ⟨rfl, rfl⟩
/-- The store of all eight as a step of a drawn region. -/
theorem step_store8 {ops : Array Oper} {d : Option Tmp} {ty : TypeId} {ps : String} {af : Array Edge} {x y : Operand} {a : Act} {w : World} {K : Act → World → Prop} {Q : Exit → Act → World → Prop} {E : Prop} {b : Nat} {t : TypeId} {L M : List Co}
    (hx : a.eval x = .pointer (some ⟨b, 0, none⟩)) (hy : a.eval y = .agg (arr M)) (R : Row w b t (arr L)) (hl : L.length = 8) (hm : M.length = 8)
    (h : K (a.put d undef) (w.setRow b (arr M))) :
    if Region.wanted ({ dst := d, op := .store 28 x y, type := ty, pos := ps, after := af, guard := none } : Oper) (yielded ops a.tmps) = true then Oper.wp Try.prog { dst := d, op := .store 28 x y, type := ty, pos := ps, after := af, guard := none } a w K Q else E := by
  rw [if_pos (by simp [Region.wanted])]
  unfold Oper.wp execOp
  simp only [hx, hy, Instr.storeAt, Instr.sureAddr, Sem.run_bind, Sem.run_pure, Result.andThen_ok, run_storeVar_row _ b t 28 _ _ R (arr_eight hm) (by rw [arr_size hl, arr_size hm]) (arr_one M)]
  exact h
end Go.Proofs.Ytjadbppcjndmlaa
