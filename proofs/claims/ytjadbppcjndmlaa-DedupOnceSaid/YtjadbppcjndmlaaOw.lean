/- Owners, eight of them by value, in plain words. No condition: nothing here speaks of a function. -/
import Derived.Test.YtjadbppcjndmlaaRp
import Derived.Deep.MidRow
namespace Go.Proofs.Ytjadbppcjndmlaa
open Go.RowKit
/-- A client as it is known. -/
structure Ow where
  s : Int
  r : Re
deriving DecidableEq
def zeroO : Ow := ⟨0, zeroR⟩
/-- One with its slice of pairs. -/
structure Co where
  o : Ow
  A : Option Addr
  c : Nat
def Co.p (x : Co) : Value := .slice x.A x.o.r.l.length x.c
def Co.cs (x : Co) : List Value := [.int .i64 x.o.s, .int .i64 x.o.r.why, .bool x.o.r.fnd, .string x.o.r.val, .int .i64 x.o.r.ver, x.p]
def coV (L : List Co) : List (List Value) := L.map Co.cs
theorem coV_all (L : List Co) : AllV 6 (coV L) := fun x hx => by
  unfold coV at hx
  obtain ⟨p, _, rfl⟩ := List.mem_map.1 hx
  exact ⟨rfl, fun u hu => by simp [Co.cs, Co.p] at hu; rcases hu with rfl | rfl | rfl | rfl | rfl | rfl <;> rfl⟩
theorem coV_len (L : List Co) : (coV L).length = L.length := List.length_map _
theorem coV_at {L : List Co} {k : Nat} {x : Co} (h : L[k]? = some x) : (coV L)[k]? = some x.cs := by unfold coV; rw [List.getElem?_map, h]; rfl
/-- Their cells. -/
def arr (L : List Co) : Array Value := (cellsV (coV L)).toArray
theorem arr_size {L : List Co} (h : L.length = 8) : (arr L).size = 48 := by
  unfold arr
  rw [List.size_toArray, length_cellsV (coV_all L), coV_len, h]
theorem arr_list (L : List Co) : (arr L).toList = cellsV (coV L) := rfl
theorem arr_one (L : List Co) : (arr L).all (·.oneCell') = true := Array.all_eq_true_iff_forall_mem.2 (fun v hv => cellsV_one (coV_all L) v (by unfold arr at hv; simpa using hv))
theorem arr_at {L : List Co} {k : Nat} {x : Co} (h : L[k]? = some x) (i : Nat) (hi : i < 6) : (arr L)[k * 6 + i]? = x.cs[i]? := by
  rw [← Array.getElem?_toList, arr_list]
  exact cellsV_of (coV_all L) (coV_at h) i hi
/-- All their lists lie in memory, none is great. -/
def Fine (w : World) (L : List Co) : Prop := L.length = 8 ∧ ∀ x, x ∈ L → Pin w x.p x.o.r.l ∧ x.o.r.l.length ≤ 3518437208780
theorem Fine.below {w w' : World} {L : List Co} (h : Fine w L) (hb : Below w.heap.size w w') : Fine w' L := ⟨h.1, fun x hx => ⟨(h.2 x hx).1.below hb, (h.2 x hx).2⟩⟩
theorem Fine.at_ {w : World} {L : List Co} (h : Fine w L) {k : Nat} (hk : k < 8) : ∃ x, L[k]? = some x ∧ Pin w x.p x.o.r.l ∧ x.o.r.l.length ≤ 3518437208780 := by
  obtain ⟨x, hx⟩ : ∃ x, L[k]? = some x := ⟨_, List.getElem?_eq_getElem (by rw [h.1]; exact hk)⟩
  exact ⟨x, hx, h.2 x (List.mem_of_getElem? hx)⟩
/-- An owner's six cells in a block of eight. -/
theorem Row.owner {w : World} {g : Nat} {t : TypeId} {L : List Co} (h : Row w g t (arr L)) {k : Nat} {x : Co} (hx : L[k]? = some x) :
    w.cell? ⟨g, k * 6, none⟩ = some (.int .i64 x.o.s) ∧ w.cell? ⟨g, k * 6 + 1, none⟩ = some (.int .i64 x.o.r.why) ∧ w.cell? ⟨g, k * 6 + 2, none⟩ = some (.bool x.o.r.fnd) ∧ w.cell? ⟨g, k * 6 + 3, none⟩ = some (.string x.o.r.val) ∧ w.cell? ⟨g, k * 6 + 4, none⟩ = some (.int .i64 x.o.r.ver) ∧ w.cell? ⟨g, k * 6 + 5, none⟩ = some x.p := by
  refine ⟨?_, ?_, ?_, ?_, ?_, ?_⟩
  · have := arr_at hx 0 (by omega)
    rw [h.cell]; exact this
  all_goals
    rw [h.cell, arr_at hx _ (by omega)]; rfl
theorem info_eight : (Try.prog.info? 28).map (·.size) = some 48 := by kernel_rfl
theorem under_eight : Try.prog.underlying 28 = some (.array 8 27) := by kernel_rfl
theorem load_eight {w : World} {g : Nat} {t : TypeId} {L : List Co} (h : Row w g t (arr L)) (hl : L.length = 8) : (Instr.loadAt 28 (.pointer (some ⟨g, 0, none⟩))).run Try.prog w = .ok (.agg (arr L)) w := by
  simp only [Instr.loadAt, Instr.sureAddr, Sem.run_bind, Sem.run_pure, Result.andThen_ok]
  exact run_loadVar_row _ g t 28 (arr L) (0, 0) _ h under_eight rfl (by rw [arr_size hl]; exact info_eight)
theorem index_eight {L : List Co} (hl : L.length = 8) {k : Nat} (hk : k < 8) {x : Co} (hx : L[k]? = some x) (w : World) : (Instr.index 28 (.agg (arr L)) (.int .i64 (k : Int))).run Try.prog w = .ok (.agg #[.int .i64 x.o.s, .int .i64 x.o.r.why, .bool x.o.r.fnd, .string x.o.r.val, .int .i64 x.o.r.ver, x.p]) w := by
  have hr : (0 : Int) ≤ (k : Int) ∧ (k : Int) < ((8 : Nat) : Int) := by omega
  have hs : (arr L).extract (k * 6) (k * 6 + 6) = #[.int .i64 x.o.s, .int .i64 x.o.r.why, .bool x.o.r.fnd, .string x.o.r.val, .int .i64 x.o.r.ver, x.p] := by
    apply Array.ext_getElem?
    intro i
    have hz := arr_size hl
    rw [Array.getElem?_extract, hz]
    by_cases hi : i < 6
    · rw [if_pos (by omega), arr_at hx i hi]
      match i, hi with
      | 0, _ => rfl
      | 1, _ => rfl
      | 2, _ => rfl
      | 3, _ => rfl
      | 4, _ => rfl
      | 5, _ => rfl
    · rw [if_neg (by omega)]
      exact (Array.getElem?_eq_none (by simp; omega)).symm
  simp [Instr.index, run_underlying under_eight, asIntOf, hr, go_sem]
  rw [if_pos hk, hs]
/-- All eight are loaded, in the walk. -/
theorem wpList_load8 {ops : Array Oper} {rest : List Oper} {d : Option Tmp} {ty : TypeId} {ps : String} {af : Array Edge} {x : Operand} {a : Act} {w : World} {Q : Exit → Act → World → Prop} {b : Nat} {t : TypeId} {L : List Co}
    (hx : a.eval x = .pointer (some ⟨b, 0, none⟩)) (R : Row w b t (arr L)) (hl : L.length = 8) (h : wpList Try.prog ops Q rest (a.put d (.agg (arr L))) w) :
    wpList Try.prog ops Q ({ dst := d, op := .load 28 x, type := ty, pos := ps, after := af, guard := none } :: rest) a w :=
  wpList_plain rfl fun K hK => by
    unfold Oper.wp execOp
    simp only [hx, Sem.run_bind, Sem.run_pure, load_eight R hl, Result.andThen_ok]
    exact hK _ _ h
theorem arr_eight {L : List Co} (hl : L.length = 8) : (Try.prog.info? 28).map (·.size) = some (arr L).size := by rw [arr_size hl]; exact info_eight
/-- All eight are stored, in the walk. -/
theorem wpList_store8 {ops : Array Oper} {rest : List Oper} {d : Option Tmp} {ty : TypeId} {ps : String} {af : Array Edge} {x y : Operand} {a : Act} {w : World} {Q : Exit → Act → World → Prop} {b : Nat} {t : TypeId} {L M : List Co}
    (hx : a.eval x = .pointer (some ⟨b, 0, none⟩)) (hy : a.eval y = .agg (arr M)) (R : Row w b t (arr L)) (hl : L.length = 8) (hm : M.length = 8)
    (h : wpList Try.prog ops Q rest (a.put d undef) (w.setRow b (arr M))) :
    wpList Try.prog ops Q ({ dst := d, op := .store 28 x y, type := ty, pos := ps, after := af, guard := none } :: rest) a w :=
  wpList_plain rfl fun K hK => by
    unfold Oper.wp execOp
    simp only [hx, hy, Instr.storeAt, Instr.sureAddr, Sem.run_bind, Sem.run_pure, Result.andThen_ok, run_storeVar_row _ b t 28 _ _ R (arr_eight hm) (by rw [arr_size hl, arr_size hm]) (arr_one M)]
    exact hK _ _ h
theorem Row.setRow {w : World} {b : Nat} {t : TypeId} {cs : Array Value} (R : Row w b t cs) (cs' : Array Value) : Row (w.setRow b cs') b t cs' := setRow_heap w b cs cs' t (0, 0) R
theorem Row.setRow_other {w : World} {b g : Nat} {t : TypeId} {cs : Array Value} (R : Row w g t cs) (hne : g ≠ b) (cs' : Array Value) : Row (w.setRow b cs') g t cs := R.same (Go.setRow_other w b g cs' hne)
theorem setRow_grown (w : World) (b : Nat) (cs : Array Value) : w.grownBy (w.setRow b cs) (some b) := ⟨rfl, rfl, rfl, by simp, fun k _ hne => Go.setRow_other w b k cs (fun e => hne (by rw [e]))⟩
end Go.Proofs.Ytjadbppcjndmlaa
