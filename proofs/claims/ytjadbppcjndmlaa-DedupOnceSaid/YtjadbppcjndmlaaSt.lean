/- Eight owners: one of them stored; all of them answered. No condition: nothing here speaks of a function. -/
import Derived.Test.YtjadbppcjndmlaaLk
namespace Go.Proofs.Ytjadbppcjndmlaa
open Go.RowKit
theorem arr_set {L : List Co} {k : Nat} {x : Co} (hx : L[k]? = some x) (y : Co) : (arr (L.set k y)).toList = (arr L).toList.take (k * 6) ++ y.cs ++ (arr L).toList.drop (k * 6 + 6) := by
  have hk : k < L.length := by
    rcases Nat.lt_or_ge k L.length with h1 | h1
    · exact h1
    · rw [List.getElem?_eq_none h1] at hx; cases hx
  have hg : L[k] = x := by rw [List.getElem?_eq_getElem hk] at hx; exact Option.some.inj hx
  have e1 : L = L.take k ++ x :: L.drop (k + 1) := by
    conv => lhs; rw [← List.take_append_drop k L, List.drop_eq_getElem_cons hk, hg]
  have e2 : L.set k y = L.take k ++ y :: L.drop (k + 1) := List.set_eq_take_append_cons_drop.trans (by rw [if_pos hk])
  have hlen : (cellsV (coV (L.take k))).length = k * 6 := by
    rw [length_cellsV (coV_all _), coV_len, List.length_take, Nat.min_eq_left (Nat.le_of_lt hk)]
  have c1 : cellsV (coV L) = cellsV (coV (L.take k)) ++ (x.cs ++ cellsV (coV (L.drop (k + 1)))) := by
    conv => lhs; rw [e1]
    unfold coV
    rw [List.map_append, cellsV_append, List.map_cons, cellsV_cons]
  have c2 : cellsV (coV (L.set k y)) = cellsV (coV (L.take k)) ++ (y.cs ++ cellsV (coV (L.drop (k + 1)))) := by
    rw [e2]
    unfold coV
    rw [List.map_append, cellsV_append, List.map_cons, cellsV_cons]
  have t1 : (cellsV (coV (L.take k)) ++ (x.cs ++ cellsV (coV (L.drop (k + 1))))).take (k * 6) = cellsV (coV (L.take k)) := List.take_left' hlen
  have t2 : (cellsV (coV (L.take k)) ++ (x.cs ++ cellsV (coV (L.drop (k + 1))))).drop (k * 6 + 6) = cellsV (coV (L.drop (k + 1))) := by
    rw [← List.append_assoc]
    exact List.drop_left' (by rw [List.length_append, hlen]; rfl)
  rw [arr_list, arr_list, c2, c1, t1, t2, List.append_assoc]
theorem six_fit {L : List Co} {k : Nat} {x : Co} (hx : L[k]? = some x) (hl : L.length = 8) : k * 6 + 6 ≤ (arr L).size := by
  have hk : k < L.length := by
    rcases Nat.lt_or_ge k L.length with h1 | h1
    · exact h1
    · rw [List.getElem?_eq_none h1] at hx; cases hx
  rw [arr_size hl]; omega
theorem set_arr {L : List Co} {k : Nat} {x : Co} (hx : L[k]? = some x) (y : Co) : ((arr L).toList.take (k * 6) ++ y.cs ++ (arr L).toList.drop (k * 6 + 6)).toArray = arr (L.set k y) := by
  rw [← arr_set hx y]
/-- An owner is stored, in the walk. -/
theorem wpList_storeO {ops : Array Oper} {rest : List Oper} {d : Option Tmp} {ty : TypeId} {ps : String} {af : Array Edge} {x y : Operand} {a : Act} {w : World} {Q : Exit → Act → World → Prop} {b k : Nat} {t : TypeId} {L : List Co} {o o' : Co}
    (hx : a.eval x = .pointer (some ⟨b, k * 6, none⟩)) (hy : a.eval y = .agg #[.int .i64 o'.o.s, .int .i64 o'.o.r.why, .bool o'.o.r.fnd, .string o'.o.r.val, .int .i64 o'.o.r.ver, .slice o'.A o'.o.r.l.length o'.c]) (R : Row w b t (arr L)) (hl : L.length = 8) (ho : L[k]? = some o)
    (h : wpList Try.prog ops Q rest (a.put d undef) (w.setRow b (arr (L.set k o')))) :
    wpList Try.prog ops Q ({ dst := d, op := .store 27 x y, type := ty, pos := ps, after := af, guard := none } :: rest) a w :=
  wpList_plain rfl fun K hK => by
    have hs := run_storeCells_at Try.prog b (k * 6) t o'.cs 0 (arr L) w R (by have := six_fit ho hl; simpa [Co.cs] using this) (by intro u hu; simp [Co.cs, Co.p] at hu; rcases hu with rfl | rfl | rfl | rfl | rfl | rfl <;> rfl)
    rw [Nat.add_zero, show o'.cs.length = 6 from rfl, set_arr ho o'] at hs
    have hi : (Try.prog.info? 27).map (·.size) = some 6 := by kernel_rfl
    have hv : (storeVar 27 ⟨b, k * 6, none⟩ (.agg #[.int .i64 o'.o.s, .int .i64 o'.o.r.why, .bool o'.o.r.fnd, .string o'.o.r.val, .int .i64 o'.o.r.ver, .slice o'.A o'.o.r.l.length o'.c])).run Try.prog w = .ok () (w.setRow b (arr (L.set k o'))) := by
      cases hq : Try.prog.info? 27 with
      | none => simp [hq] at hi
      | some i =>
        have hs6 : i.size = 6 := by simpa [hq] using hi
        simp only [Co.cs, Co.p] at hs
        simp [storeVar, sizeOf, typeInfo, hq, Value.cells, hs6, hs]
    unfold Oper.wp execOp
    simp only [hx, hy, Instr.storeAt, Instr.sureAddr, Sem.run_bind, Sem.run_pure, Result.andThen_ok, hv]
    exact hK _ _ h
/-- A reply is stored into an owner, in the walk. -/
theorem wpList_storeR {ops : Array Oper} {rest : List Oper} {d : Option Tmp} {ty : TypeId} {ps : String} {af : Array Edge} {x y : Operand} {a : Act} {w : World} {Q : Exit → Act → World → Prop} {b k : Nat} {t : TypeId} {L : List Co} {o : Co} {r : Re} {A : Option Addr} {c : Nat}
    (hx : a.eval x = .pointer (some ⟨b, k * 6 + 1, none⟩)) (hy : a.eval y = .agg #[.int .i64 r.why, .bool r.fnd, .string r.val, .int .i64 r.ver, .slice A r.l.length c]) (R : Row w b t (arr L)) (hl : L.length = 8) (ho : L[k]? = some o)
    (h : wpList Try.prog ops Q rest (a.put d undef) (w.setRow b (arr (L.set k ⟨⟨o.o.s, r⟩, A, c⟩)))) :
    wpList Try.prog ops Q ({ dst := d, op := .store 25 x y, type := ty, pos := ps, after := af, guard := none } :: rest) a w :=
  wpList_plain rfl fun K hK => by
    have h6 := six_fit ho hl
    have hs := run_storeCells_at Try.prog b (k * 6 + 1) t [.int .i64 r.why, .bool r.fnd, .string r.val, .int .i64 r.ver, .slice A r.l.length c] 0 (arr L) w R (by simp only [List.length_cons, List.length_nil]; omega) (by intro u hu; simp at hu; rcases hu with rfl | rfl | rfl | rfl | rfl <;> rfl)
    have e0 : (arr L).toList.take (k * 6 + 1) = (arr L).toList.take (k * 6) ++ [.int .i64 o.o.s] := by
      rw [List.take_add_one]
      have := arr_at ho 0 (by omega)
      rw [← Array.getElem?_toList] at this
      rw [show k * 6 = k * 6 + 0 from rfl, this]; rfl
    have e1 : (arr L).toList.take (k * 6 + 1 + 0) ++ [.int .i64 r.why, .bool r.fnd, .string r.val, .int .i64 r.ver, .slice A r.l.length c] ++ (arr L).toList.drop (k * 6 + 1 + 0 + [Value.int .i64 r.why, .bool r.fnd, .string r.val, .int .i64 r.ver, .slice A r.l.length c].length) = (arr L).toList.take (k * 6) ++ Co.cs ⟨⟨o.o.s, r⟩, A, c⟩ ++ (arr L).toList.drop (k * 6 + 6) := by
      rw [Nat.add_zero, e0, List.append_assoc ((arr L).toList.take (k * 6))]
      rfl
    rw [e1, set_arr ho] at hs
    have hi : (Try.prog.info? 25).map (·.size) = some 5 := by kernel_rfl
    have hv : (storeVar 25 ⟨b, k * 6 + 1, none⟩ (.agg #[.int .i64 r.why, .bool r.fnd, .string r.val, .int .i64 r.ver, .slice A r.l.length c])).run Try.prog w = .ok () (w.setRow b (arr (L.set k ⟨⟨o.o.s, r⟩, A, c⟩))) := by
      cases hq : Try.prog.info? 25 with
      | none => simp [hq] at hi
      | some i =>
        have hs6 : i.size = 5 := by simpa [hq] using hi
        simp [storeVar, sizeOf, typeInfo, hq, Value.cells, hs6, hs]
    unfold Oper.wp execOp
    simp only [hx, hy, Instr.storeAt, Instr.sureAddr, Sem.run_bind, Sem.run_pure, Result.andThen_ok, hv]
    exact hK _ _ h
/-- All eight out of a block. -/
theorem results8 {fn : Func} {tmps : Array Value} {w : World} {a h : Nat} {t : TypeId} {M : List Co} (hf : fn.results = #[.cell a 28]) (ht : tmps[a]? = some (.pointer (some ⟨h, 0, none⟩))) (hr : Row w h t (arr M)) (hl : M.length = 8) :
    (results fn tmps).run Try.prog w = .ok (.agg (arr M)) w := by
  have hld := run_loadVar_row w h t 28 (arr M) (0, 0) _ hr under_eight rfl (arr_eight hl)
  simp only [results, hf]
  simp [asAddr, ht, hld]
def zeroC : Co := ⟨zeroO, none, 0⟩
def zeroL : List Co := [zeroC, zeroC, zeroC, zeroC, zeroC, zeroC, zeroC, zeroC]
theorem zero_arr : (#[.int .i64 0, .int .i64 0, .bool false, .string { data := #[] }, .int .i64 0, .slice none 0 0, .int .i64 0, .int .i64 0, .bool false, .string { data := #[] }, .int .i64 0, .slice none 0 0, .int .i64 0, .int .i64 0, .bool false, .string { data := #[] }, .int .i64 0, .slice none 0 0, .int .i64 0, .int .i64 0, .bool false, .string { data := #[] }, .int .i64 0, .slice none 0 0, .int .i64 0, .int .i64 0, .bool false, .string { data := #[] }, .int .i64 0, .slice none 0 0, .int .i64 0, .int .i64 0, .bool false, .string { data := #[] }, .int .i64 0, .slice none 0 0, .int .i64 0, .int .i64 0, .bool false, .string { data := #[] }, .int .i64 0, .slice none 0 0, .int .i64 0, .int .i64 0, .bool false, .string { data := #[] }, .int .i64 0, .slice none 0 0] : Array Value) = arr zeroL := rfl
theorem zero_fine (w : World) : Fine w zeroL := ⟨rfl, fun x hx => by
  have : x = zeroC := by
    unfold zeroL at hx
    simp at hx
    exact hx
  subst this
  exact ⟨Pin.nil_ w, Nat.zero_le _⟩⟩
end Go.Proofs.Ytjadbppcjndmlaa
