/- A State by value: pairs and eight owners, in plain words; loads, stores and builds of it in the walk. No condition: nothing here speaks of a function. -/
import Derived.Test.YtahfpncfkcfogaaGf
import Derived.Test.YtahfpncfkcfogaaGc
import Derived.Test.YtahfpncfkcfogaaGd
import Derived.Test.YtahfpncfkcfogaaGg
namespace Go.Proofs.Ytahfpncfkcfogaa
set_option maxRecDepth 100000
open Go.RowKit
/-- A state's cells: the slice of pairs p, the owners L. -/
def stc (p : Value) (L : List Co) : Array Value := #[p] ++ arr L
theorem stc_nil (L : List Co) : stA L = stc (.slice none 0 0) L := rfl
theorem stc_size {L : List Co} (p : Value) (h : L.length = 8) : (stc p L).size = 49 := by unfold stc; rw [Array.size_append, arr_size h]; rfl
theorem stc_at {L : List Co} (p : Value) (i : Nat) : (stc p L)[1 + i]? = (arr L)[i]? := by
  unfold stc
  rw [Array.getElem?_append_right (by simp)]
  simp
theorem stc_zero {L : List Co} (p : Value) : (stc p L)[0]? = some p := by
  unfold stc
  rw [Array.getElem?_append_left (by simp)]; rfl
theorem stc_list (p : Value) (L : List Co) : (stc p L).toList = p :: (arr L).toList := by unfold stc; simp
theorem stc_one {p : Value} {L : List Co} (hp : p.oneCell' = true) : (stc p L).all (·.oneCell') = true := Array.all_eq_true_iff_forall_mem.2 (fun v hv => by
  rw [← Array.mem_toList_iff, stc_list] at hv
  rcases List.mem_cons.1 hv with rfl | hv
  · exact hp
  · exact (Array.all_eq_true_iff_forall_mem.1 (arr_one L)) v (Array.mem_toList_iff.1 hv))
theorem slice_one (A : Option Addr) (n c : Nat) : (Value.slice A n c).oneCell' = true := rfl
/-- An owner's six cells in a state's block; the pairs' cell. -/
theorem Row.owner49 {w : World} {g : Nat} {t : TypeId} {p : Value} {L : List Co} (h : Row w g t (stc p L)) {k : Nat} {x : Co} (hx : L[k]? = some x) :
    w.cell? ⟨g, 1 + k * 6, none⟩ = some (.int .i64 x.o.s) ∧ w.cell? ⟨g, 1 + k * 6 + 1, none⟩ = some (.int .i64 x.o.r.why) ∧ w.cell? ⟨g, 1 + k * 6 + 2, none⟩ = some (.bool x.o.r.fnd) ∧ w.cell? ⟨g, 1 + k * 6 + 3, none⟩ = some (.string x.o.r.val) ∧ w.cell? ⟨g, 1 + k * 6 + 4, none⟩ = some (.int .i64 x.o.r.ver) ∧ w.cell? ⟨g, 1 + k * 6 + 5, none⟩ = some x.p := by
  have hc : ∀ i, i < 6 → w.cell? ⟨g, 1 + k * 6 + i, none⟩ = x.cs[i]? := fun i hi => by
    rw [h.cell, Nat.add_assoc, stc_at, arr_at hx i hi]
  exact ⟨hc 0 (by omega), hc 1 (by omega), hc 2 (by omega), hc 3 (by omega), hc 4 (by omega), hc 5 (by omega)⟩
theorem Row.pairs49 {w : World} {g : Nat} {t : TypeId} {p : Value} {L : List Co} (h : Row w g t (stc p L)) : w.cell? ⟨g, 0, none⟩ = some p := by rw [h.cell, stc_zero]
theorem info_state : (Try.prog.info? 30).map (·.size) = some 49 := by kernel_rfl
theorem under_state : Try.prog.underlying 30 = some (.struct (Try.prog.fieldsOf 30)) := by kernel_rfl
theorem load_state {w : World} {g : Nat} {t : TypeId} {p : Value} {L : List Co} (h : Row w g t (stc p L)) (hl : L.length = 8) : (Instr.loadAt 30 (.pointer (some ⟨g, 0, none⟩))).run Try.prog w = .ok (.agg (stc p L)) w := by
  simp only [Instr.loadAt, Instr.sureAddr, Sem.run_bind, Sem.run_pure, Result.andThen_ok]
  exact run_loadVar_row _ g t 30 (stc p L) (0, 0) _ h under_state rfl (by rw [stc_size p hl]; exact info_state)
/-- The owners out of a state's block. -/
theorem load_owners {w : World} {g : Nat} {t : TypeId} {p : Value} {L : List Co} (h : Row w g t (stc p L)) (hl : L.length = 8) : (Instr.loadAt 28 (.pointer (some ⟨g, 1, none⟩))).run Try.prog w = .ok (.agg (arr L)) w := by
  have hc : w.rangeAt g 1 (arr L).toList := fun j v hv => by
    rw [h.cell, stc_at, ← Array.getElem?_toList]; exact hv
  have := run_loadAt_mid (P := Try.prog) w g 1 28 (arr L).toList _ hc under_eight rfl (by rw [Array.length_toList, arr_size hl]; exact info_eight)
  rw [Array.toArray_toList] at this
  exact this
section
variable {ops : Array Oper} {rest : List Oper} {d : Option Tmp} {ty : TypeId} {ps : String} {af : Array Edge} {x y : Operand} {a : Act} {w : World} {Q : Exit → Act → World → Prop} {b : Nat} {t : TypeId} {p q : Value} {L M : List Co}
theorem wpList_load49 (hx : a.eval x = .pointer (some ⟨b, 0, none⟩)) (R : Row w b t (stc p L)) (hl : L.length = 8) (h : wpList Try.prog ops Q rest (a.put d (.agg (stc p L))) w) :
    wpList Try.prog ops Q ({ dst := d, op := .load 30 x, type := ty, pos := ps, after := af, guard := none } :: rest) a w :=
  wpList_plain rfl fun K hK => by
    unfold Oper.wp execOp
    simp only [hx, Sem.run_bind, Sem.run_pure, load_state R hl, Result.andThen_ok]
    exact hK _ _ h
theorem wpList_load8of (hx : a.eval x = .pointer (some ⟨b, 1, none⟩)) (R : Row w b t (stc p L)) (hl : L.length = 8) (h : wpList Try.prog ops Q rest (a.put d (.agg (arr L))) w) :
    wpList Try.prog ops Q ({ dst := d, op := .load 28 x, type := ty, pos := ps, after := af, guard := none } :: rest) a w :=
  wpList_plain rfl fun K hK => by
    unfold Oper.wp execOp
    simp only [hx, Sem.run_bind, Sem.run_pure, load_owners R hl, Result.andThen_ok]
    exact hK _ _ h
theorem wpList_store49 (hx : a.eval x = .pointer (some ⟨b, 0, none⟩)) (hy : a.eval y = .agg (stc q M)) (hq : q.oneCell' = true) (R : Row w b t (stc p L)) (hl : L.length = 8) (hm : M.length = 8)
    (h : wpList Try.prog ops Q rest (a.put d undef) (w.setRow b (stc q M))) :
    wpList Try.prog ops Q ({ dst := d, op := .store 30 x y, type := ty, pos := ps, after := af, guard := none } :: rest) a w :=
  wpList_plain rfl fun K hK => by
    unfold Oper.wp execOp
    simp only [hx, hy, Instr.storeAt, Instr.sureAddr, Sem.run_bind, Sem.run_pure, Result.andThen_ok, run_storeVar_row _ b t 30 _ _ R (show _ = some (stc q M).size by rw [stc_size q hm]; exact info_state) (by rw [stc_size p hl, stc_size q hm]) (stc_one hq)]
    exact hK _ _ h
/-- The owners into a state's block. -/
theorem wpList_store8of (hx : a.eval x = .pointer (some ⟨b, 1, none⟩)) (hy : a.eval y = .agg (arr M)) (R : Row w b t (stc p L)) (hl : L.length = 8) (hm : M.length = 8)
    (h : wpList Try.prog ops Q rest (a.put d undef) (w.setRow b (stc p M))) :
    wpList Try.prog ops Q ({ dst := d, op := .store 28 x y, type := ty, pos := ps, after := af, guard := none } :: rest) a w :=
  wpList_plain rfl fun K hK => by
    have hs := run_storeCells_at Try.prog b 1 t (arr M).toList 0 (stc p L) w R (by rw [Array.length_toList, arr_size hm, stc_size p hl]; omega) (fun v hv => (Array.all_eq_true_iff_forall_mem.1 (arr_one M)) v (Array.mem_toList_iff.1 hv))
    have e : ((stc p L).toList.take (1 + 0) ++ (arr M).toList ++ (stc p L).toList.drop (1 + 0 + (arr M).toList.length)).toArray = stc p M := by
      apply Array.toList_inj.1
      rw [stc_list, stc_list, List.drop_of_length_le (by rw [List.length_cons, Array.length_toList, Array.length_toList, arr_size hl, arr_size hm]; omega)]
      simp
    rw [e] at hs
    have hi := info_eight
    have hv : (storeVar 28 ⟨b, 1, none⟩ (.agg (arr M))).run Try.prog w = .ok () (w.setRow b (stc p M)) := by
      cases hq : Try.prog.info? 28 with
      | none => simp [hq] at hi
      | some i =>
        have hs6 : i.size = 48 := by simpa [hq] using hi
        have hz := arr_size hm
        simp [storeVar, sizeOf, typeInfo, hq, Value.cells, hs6, hz, hs]
    unfold Oper.wp execOp
    simp only [hx, hy, Instr.storeAt, Instr.sureAddr, Sem.run_bind, Sem.run_pure, Result.andThen_ok, hv]
    exact hK _ _ h
end
set_option maxRecDepth 100000 in
theorem zero_state : (#[.slice none 0 0, .int .i64 0, .int .i64 0, .bool false, .string { data := #[] }, .int .i64 0, .slice none 0 0, .int .i64 0, .int .i64 0, .bool false, .string { data := #[] }, .int .i64 0, .slice none 0 0, .int .i64 0, .int .i64 0, .bool false, .string { data := #[] }, .int .i64 0, .slice none 0 0, .int .i64 0, .int .i64 0, .bool false, .string { data := #[] }, .int .i64 0, .slice none 0 0, .int .i64 0, .int .i64 0, .bool false, .string { data := #[] }, .int .i64 0, .slice none 0 0, .int .i64 0, .int .i64 0, .bool false, .string { data := #[] }, .int .i64 0, .slice none 0 0, .int .i64 0, .int .i64 0, .bool false, .string { data := #[] }, .int .i64 0, .slice none 0 0, .int .i64 0, .int .i64 0, .bool false, .string { data := #[] }, .int .i64 0, .slice none 0 0] : Array Value) = stc (.slice none 0 0) zeroL := rfl
theorem Row.putPairs {w : World} {g : Nat} {t : TypeId} {p : Value} {L : List Co} (h : Row w g t (stc p L)) (q : Value) : Row (w.setCell ⟨g, 0, none⟩ q) g t (stc q L) := by
  have z := h.put 0 q
  have e : (stc p L).setIfInBounds 0 q = stc q L := by
    apply Array.toList_inj.1
    rw [Array.toList_setIfInBounds, stc_list, stc_list]; rfl
  rw [e] at z
  exact z
theorem stc_set {L : List Co} {k : Nat} {x : Co} (p : Value) (hx : L[k]? = some x) (y : Co) : ((stc p L).toList.take (1 + k * 6) ++ y.cs ++ (stc p L).toList.drop (1 + k * 6 + 6)).toArray = stc p (L.set k y) := by
  apply Array.toList_inj.1
  rw [stc_list, stc_list, arr_set hx y, Nat.add_comm 1, List.take_succ_cons, show k * 6 + 1 + 6 = (k * 6 + 6) + 1 by omega, List.drop_succ_cons]
  simp
section
variable {ops : Array Oper} {rest : List Oper} {d : Option Tmp} {ty : TypeId} {ps : String} {af : Array Edge} {x y : Operand} {a : Act} {w : World} {Q : Exit → Act → World → Prop} {b k : Nat} {t : TypeId} {p : Value} {L : List Co} {o : Co}
/-- A reply is stored into an owner of a state, in the walk. -/
theorem wpList_storeR49 {r : Re} {A : Option Addr} {c : Nat} (hx : a.eval x = .pointer (some ⟨b, 1 + k * 6 + 1, none⟩)) (hy : a.eval y = .agg #[.int .i64 r.why, .bool r.fnd, .string r.val, .int .i64 r.ver, .slice A r.l.length c]) (R : Row w b t (stc p L)) (hl : L.length = 8) (ho : L[k]? = some o)
    (h : wpList Try.prog ops Q rest (a.put d undef) (w.setRow b (stc p (L.set k ⟨⟨o.o.s, r⟩, A, c⟩)))) :
    wpList Try.prog ops Q ({ dst := d, op := .store 25 x y, type := ty, pos := ps, after := af, guard := none } :: rest) a w :=
  wpList_plain rfl fun K hK => by
    have h6 := six_fit ho hl
    have hz := arr_size hl
    have hs := run_storeCells_at Try.prog b (1 + k * 6 + 1) t [.int .i64 r.why, .bool r.fnd, .string r.val, .int .i64 r.ver, .slice A r.l.length c] 0 (stc p L) w R (by rw [stc_size p hl]; simp only [List.length_cons, List.length_nil]; omega) (by intro u hu; simp at hu; rcases hu with rfl | rfl | rfl | rfl | rfl <;> rfl)
    have e0 : (stc p L).toList.take (1 + k * 6 + 1) = (stc p L).toList.take (1 + k * 6) ++ [.int .i64 o.o.s] := by
      rw [List.take_add_one]
      have := arr_at ho 0 (by omega)
      rw [Nat.add_zero] at this
      have h2 := stc_at (L := L) p (k * 6)
      rw [← Array.getElem?_toList] at h2
      rw [h2, this]; rfl
    have e1 : (stc p L).toList.take (1 + k * 6 + 1 + 0) ++ [.int .i64 r.why, .bool r.fnd, .string r.val, .int .i64 r.ver, .slice A r.l.length c] ++ (stc p L).toList.drop (1 + k * 6 + 1 + 0 + [Value.int .i64 r.why, .bool r.fnd, .string r.val, .int .i64 r.ver, .slice A r.l.length c].length) = (stc p L).toList.take (1 + k * 6) ++ Co.cs ⟨⟨o.o.s, r⟩, A, c⟩ ++ (stc p L).toList.drop (1 + k * 6 + 6) := by
      rw [Nat.add_zero, e0, List.append_assoc ((stc p L).toList.take (1 + k * 6))]
      rfl
    rw [e1, stc_set p ho] at hs
    have hi : (Try.prog.info? 25).map (·.size) = some 5 := by kernel_rfl
    have hv : (storeVar 25 ⟨b, 1 + k * 6 + 1, none⟩ (.agg #[.int .i64 r.why, .bool r.fnd, .string r.val, .int .i64 r.ver, .slice A r.l.length c])).run Try.prog w = .ok () (w.setRow b (stc p (L.set k ⟨⟨o.o.s, r⟩, A, c⟩))) := by
      cases hq : Try.prog.info? 25 with
      | none => simp [hq] at hi
      | some i =>
        have hs6 : i.size = 5 := by simpa [hq] using hi
        simp [storeVar, sizeOf, typeInfo, hq, Value.cells, hs6, hs]
    unfold Oper.wp execOp
    simp only [hx, hy, Instr.storeAt, Instr.sureAddr, Sem.run_bind, Sem.run_pure, Result.andThen_ok, hv]
    exact hK _ _ h
/-- An owner is stored into a state, in the walk. -/
theorem wpList_storeO49 {o' : Co} (hx : a.eval x = .pointer (some ⟨b, 1 + k * 6, none⟩)) (hy : a.eval y = .agg #[.int .i64 o'.o.s, .int .i64 o'.o.r.why, .bool o'.o.r.fnd, .string o'.o.r.val, .int .i64 o'.o.r.ver, .slice o'.A o'.o.r.l.length o'.c]) (R : Row w b t (stc p L)) (hl : L.length = 8) (ho : L[k]? = some o)
    (h : wpList Try.prog ops Q rest (a.put d undef) (w.setRow b (stc p (L.set k o')))) :
    wpList Try.prog ops Q ({ dst := d, op := .store 27 x y, type := ty, pos := ps, after := af, guard := none } :: rest) a w :=
  wpList_plain rfl fun K hK => by
    have h6 := six_fit ho hl
    have hz := arr_size hl
    have hs := run_storeCells_at Try.prog b (1 + k * 6) t o'.cs 0 (stc p L) w R (by rw [stc_size p hl]; simp only [Co.cs, List.length_cons, List.length_nil]; omega) (by intro u hu; simp [Co.cs, Co.p] at hu; rcases hu with rfl | rfl | rfl | rfl | rfl | rfl <;> rfl)
    rw [Nat.add_zero, show o'.cs.length = 6 from rfl, stc_set p ho o'] at hs
    have hi : (Try.prog.info? 27).map (·.size) = some 6 := by kernel_rfl
    have hv : (storeVar 27 ⟨b, 1 + k * 6, none⟩ (.agg #[.int .i64 o'.o.s, .int .i64 o'.o.r.why, .bool o'.o.r.fnd, .string o'.o.r.val, .int .i64 o'.o.r.ver, .slice o'.A o'.o.r.l.length o'.c])).run Try.prog w = .ok () (w.setRow b (stc p (L.set k o'))) := by
      cases hq : Try.prog.info? 27 with
      | none => simp [hq] at hi
      | some i =>
        have hs6 : i.size = 6 := by simpa [hq] using hi
        simp only [Co.cs, Co.p] at hs
        simp [storeVar, sizeOf, typeInfo, hq, Value.cells, hs6, hs]
    unfold Oper.wp execOp
    simp only [hx, hy, Instr.storeAt, Instr.sureAddr, Sem.run_bind, Sem.run_pure, Result.andThen_ok, hv]
    exact hK _ _ h
end
end Go.Proofs.Ytahfpncfkcfogaa
/- What commands do, in plain words: a state is its pairs and its owners; what stays right. No condition: nothing here speaks of a program. -/
namespace Go.Proofs.Ytahfpncfkcfogaa
open Go.RowKit
/-- A state. -/
structure Sm where
  l : List Pr
  o : List Ow
def zeroS : Sm := ⟨[], ows zeroL⟩
def errR (n : Int) : Re := ⟨n, false, nilT, 0, []⟩
/-- What a command does to pairs, and what it is answered. -/
def runP (l : List Pr) (c : Cm) : List Pr × Re :=
  if c.k = 1 then (l, ⟨0, isB l c.key, (getP l c.key).v, (getP l c.key).n, []⟩)
  else if c.k = 2 then (if fullB l c.key = true then (l, errR 7) else (putP l c.key c.val, ⟨0, isB l c.key, nilT, IntKind.i64.wrap ((getP l c.key).n + 1), []⟩))
  else if c.k = 3 then (delP l c.key, ⟨0, isB l c.key, nilT, (getP l c.key).n, []⟩)
  else if c.k = 4 then (if (isB l c.key && eqB (getP l c.key).v c.old) = true then (putP l c.key c.val, ⟨0, true, (getP l c.key).v, IntKind.i64.wrap ((getP l c.key).n + 1), []⟩) else (l, ⟨0, false, (getP l c.key).v, (getP l c.key).n, []⟩))
  else (l, ⟨0, moreB l c.key c.en, nilT, 0, rngP l c.key c.en⟩)
/-- What a command does to a state. -/
def applyP (s : Sm) (c : Cm) : Sm × Re :=
  if sameC c c_zeroC = true then (s, zeroR)
  else if rightC c = false then (s, errR 1)
  else if (lookO s.o c.c c.q).1 = 2 then (s, (lookO s.o c.c c.q).2)
  else if (lookO s.o c.c c.q).1 = 3 then (s, errR 9)
  else (⟨(runP s.l c).1, noteO s.o c.c c.q (runP s.l c).2⟩, (runP s.l c).2)
/-- Commands one behind the other: the state, the replies. -/
def playP : Sm → List Cm → Sm × List Re
  | s, [] => (s, [])
  | s, c :: r => ((playP (applyP s c).1 r).1, (applyP s c).2 :: (playP (applyP s c).1 r).2)
/-- What is said of a right command. -/
theorem rc_says {c : Cm} (h : rightC c = true) (h0 : sameC c c_zeroC = false) : 1 ≤ c.k ∧ c.k ≤ 5 ∧ c = namedC c ∧ (1 ≤ c.c ∧ c.c ≤ 8) ∧ 1 ≤ c.q ∧ c.q ≤ 1099511627776 ∧ (c.k ≠ 5 → nilB c.key = false) ∧ c.key.size ≤ 16 ∧ c.en.size ≤ 16 ∧ c.old.size ≤ 64 ∧ c.val.size ≤ 64 := by
  unfold rightC at h
  by_cases hk : c.k = 0
  · rw [if_pos hk, h0] at h; cases h
  rw [if_neg hk, Bool.and_eq_true, sameC_iff] at h
  obtain ⟨hn, hb⟩ := h
  unfold boundC at hb
  simp only [Bool.and_eq_true, decide_eq_true_eq, Bool.not_eq_true', Bool.and_eq_false_iff, decide_eq_false_iff_not] at hb
  obtain ⟨b0, b1, b2, b3, b4, ⟨b5, b6⟩, b7, b8⟩ := hb
  have hk5 : 1 ≤ c.k ∧ c.k ≤ 5 := by
    by_cases h5 : 1 ≤ c.k ∧ c.k ≤ 5
    · exact h5
    · have e : namedC c = c_zeroC := by
        unfold namedC
        rw [if_neg (by omega), if_neg (by omega), if_neg (by omega), if_neg (by omega)]
      rw [e] at hn
      rw [sameC_iff.2 hn] at h0; cases h0
  refine ⟨hk5.1, hk5.2, hn, ⟨b1, b2⟩, b3, b4, fun h5 => ?_, b5, b6, b7, b8⟩
  rcases b0 with b0 | b0
  · exact b0
  · exact absurd h5 b0
/-- A state that is right, no version above n. -/
structure Rs (n : Int) (s : Sm) : Prop where
  up : Up s.l
  may : ∀ p, p ∈ s.l → mayB p = true ∧ p.n ≤ n
  len : s.l.length ≤ 32
  eight : s.o.length = 8
  own : ∀ o, o ∈ s.o → mayO o = true
theorem may_says {p : Pr} (h : mayB p = true) : nilB p.k = false ∧ p.k.size ≤ 16 ∧ p.v.size ≤ 64 ∧ 1 ≤ p.n := by
  unfold mayB at h
  simp only [Bool.and_eq_true, decide_eq_true_eq, Bool.not_eq_true'] at h
  exact ⟨h.1, h.2.1, h.2.2.1, h.2.2.2⟩
theorem may_is {p : Pr} (h0 : nilB p.k = false) (h1 : p.k.size ≤ 16) (h2 : p.v.size ≤ 64) (h3 : 1 ≤ p.n) : mayB p = true := by
  unfold mayB
  rw [h0, decide_eq_true h1, decide_eq_true h2, decide_eq_true h3]; rfl
theorem Rs.zero : Rs 0 zeroS := ⟨List.Pairwise.nil, (fun p h => absurd h (by unfold zeroS; simp)), Nat.zero_le _, rfl, fun o h => by
  have e : ows zeroL = [zeroO, zeroO, zeroO, zeroO, zeroO, zeroO, zeroO, zeroO] := rfl
  have : o = zeroO := by
    have h' : o ∈ ows zeroL := h
    rw [e] at h'
    simpa using h'
  subst this
  unfold mayO
  rw [if_pos (show zeroO.s = 0 from rfl)]
  unfold nullR zeroO zeroR
  dsimp only
  have : nilB nilT = true := by unfold nilB; rw [nil_list]; rfl
  rw [this]; rfl⟩
theorem Rs.mono {n m : Int} {s : Sm} (h : Rs n s) (hm : n ≤ m) : Rs m s := ⟨h.up, fun p hp => ⟨(h.may p hp).1, Int.le_trans (h.may p hp).2 hm⟩, h.len, h.eight, h.own⟩
/-- What getP answers of such pairs. -/
theorem get_says {n : Int} {l : List Pr} (hm : ∀ p, p ∈ l → mayB p = true ∧ p.n ≤ n) (h0 : 0 ≤ n) (key : ByteArray) : (getP l key).v.size ≤ 64 ∧ 0 ≤ (getP l key).n ∧ (getP l key).n ≤ n := by
  cases hb : isB l key
  · rw [getP_none hb]
    exact ⟨Nat.zero_le _, Int.le_refl _, h0⟩
  · have := get_is hb
    obtain ⟨q1, q2⟩ := hm _ this.1
    obtain ⟨_, _, q3, q4⟩ := may_says q1
    exact ⟨q3, by omega, q2⟩
theorem mem_put2 {l : List Pr} (h : Up l) {key value : ByteArray} {q : Pr} (hq : q ∈ putP l key value) : q = ⟨key, value, verP l key⟩ ∨ q ∈ l := by
  cases hb : isB l key
  · obtain ⟨X, Y, e, hl, _, _⟩ := not_there h hb
    rw [put_new hb e hl] at hq
    rcases List.mem_append.1 hq with hq | hq
    · exact .inr (by rw [e]; exact List.mem_append_left _ hq)
    · rcases List.mem_cons.1 hq with rfl | hq
      · left; unfold verP; rw [if_neg (by rw [hb]; simp)]
      · exact .inr (by rw [e]; exact List.mem_append_right _ hq)
  · obtain ⟨X, p, Y, e, hl, hk, hg, _, _⟩ := there h hb
    rw [put_old hb e hl hg] at hq
    rcases List.mem_append.1 hq with hq | hq
    · exact .inr (by rw [e]; exact List.mem_append_left _ hq)
    · rcases List.mem_cons.1 hq with rfl | hq
      · left; unfold verP; rw [if_pos hb, hg]
      · exact .inr (by rw [e]; exact List.mem_append_right _ (List.mem_cons_of_mem _ hq))
theorem len_put {l : List Pr} (h : Up l) (key value : ByteArray) (hf : fullB l key = false) (hl : l.length ≤ 32) : (putP l key value).length ≤ 32 := by
  cases hb : isB l key
  · unfold fullB at hf
    rw [hb] at hf
    simp at hf
    have := (perm_new h (value := value) hb).length_eq
    rw [this, List.length_cons]; omega
  · obtain ⟨X, p, Y, e, hs, hk, hg, _, _⟩ := there h hb
    rw [put_old hb e hs hg]
    rw [e] at hl
    simpa using hl
/-- The pairs of a put that fits. -/
theorem put_right {n : Int} {l : List Pr} (hu : Up l) (hm : ∀ p, p ∈ l → mayB p = true ∧ p.n ≤ n) (h0 : 0 ≤ n) (hn : n ≤ 4611686018427387904) {key value : ByteArray} (hk : nilB key = false) (k16 : key.size ≤ 16) (v64 : value.size ≤ 64) : ∀ p, p ∈ putP l key value → mayB p = true ∧ p.n ≤ n + 1 := fun p hp => by
  rcases mem_put2 hu hp with rfl | hp
  · have g := get_says hm h0 key
    have hv : 1 ≤ verP l key ∧ verP l key ≤ n + 1 := by
      unfold verP
      split
      · rw [IntKind.wrap_i64]; omega
      · omega
    exact ⟨may_is hk k16 v64 hv.1, hv.2⟩
  · exact ⟨(hm p hp).1, by have := (hm p hp).2; omega⟩
theorem full_is {l : List Pr} {key : ByteArray} (h : isB l key = true) : fullB l key = false := by unfold fullB; rw [h]; rfl
/-- Every command leaves right pairs, and answers a right reply. -/
theorem run_right {n : Int} {l : List Pr} {c : Cm} (hu : Up l) (hm : ∀ p, p ∈ l → mayB p = true ∧ p.n ≤ n) (hl : l.length ≤ 32) (h0 : 0 ≤ n) (hn : n ≤ 4611686018427387904) (hc : rightC c = true) (hz : sameC c c_zeroC = false) :
    (Up (runP l c).1 ∧ (∀ p, p ∈ (runP l c).1 → mayB p = true ∧ p.n ≤ n + 1) ∧ (runP l c).1.length ≤ 32) ∧ okR (runP l c).2 = true := by
  obtain ⟨k1, k5, _, _, _, _, hk, s1, s2, s3, s4⟩ := rc_says hc hz
  have g := get_says hm h0 c.key
  have hm' : ∀ p, p ∈ l → mayB p = true ∧ p.n ≤ n + 1 := fun p hp => ⟨(hm p hp).1, by have := (hm p hp).2; omega⟩
  have hr0 : rightB [] = true := right_true ⟨Nat.zero_le _, fun j hj => absurd hj (by simp)⟩
  have n64 : nilT.size ≤ 64 := Nat.zero_le _
  have ok0 : ∀ (f : Bool) (v : ByteArray) (m : Int), v.size ≤ 64 → 0 ≤ m → okR ⟨0, f, v, m, []⟩ = true := fun f v m q1 q2 => by
    unfold okR
    dsimp only
    rw [hr0, decide_eq_true q1, decide_eq_true q2]; rfl
  have hw : 0 ≤ IntKind.i64.wrap ((getP l c.key).n + 1) := by rw [IntKind.wrap_i64]; omega
  unfold runP
  by_cases e1 : c.k = 1
  · rw [if_pos e1]
    exact ⟨⟨hu, hm', hl⟩, ok0 _ _ _ g.1 g.2.1⟩
  rw [if_neg e1]
  by_cases e2 : c.k = 2
  · rw [if_pos e2]
    cases hf : fullB l c.key
    · exact ⟨⟨hu.put _ _, put_right hu hm h0 hn (hk (by omega)) s1 s4, len_put hu _ _ hf hl⟩, ok0 _ _ _ n64 hw⟩
    · refine ⟨⟨hu, hm', hl⟩, ?_⟩
      show okR (errR 7) = true
      unfold okR errR
      dsimp only
      rw [hr0, decide_eq_true n64]; rfl
  rw [if_neg e2]
  by_cases e3 : c.k = 3
  · rw [if_pos e3]
    refine ⟨⟨hu.del _, fun p hp => hm' p (mem_del hu hp), ?_⟩, ok0 _ _ _ n64 g.2.1⟩
    cases hb : isB l c.key
    · show (delP l c.key).length ≤ 32
      rw [del_none hb]; exact hl
    · obtain ⟨X, p, Y, e, hs, _, _, _, _⟩ := there hu hb
      show (delP l c.key).length ≤ 32
      rw [del_old hb e hs]
      rw [e] at hl
      simp at hl ⊢
      omega
  rw [if_neg e3]
  by_cases e4 : c.k = 4
  · rw [if_pos e4]
    split
    · rename_i hb
      rw [Bool.and_eq_true] at hb
      exact ⟨⟨hu.put _ _, put_right hu hm h0 hn (hk (by omega)) s1 s4, len_put hu _ _ (full_is hb.1) hl⟩, ok0 _ _ _ g.1 hw⟩
    · exact ⟨⟨hu, hm', hl⟩, ok0 _ _ _ g.1 g.2.1⟩
  rw [if_neg e4]
  refine ⟨⟨hu, hm', hl⟩, ?_⟩
  have hsub : (rngP l c.key c.en).Sublist l := (List.take_sublist _ _).trans List.filter_sublist
  have h8 : (rngP l c.key c.en).length ≤ 8 := by unfold rngP; rw [List.length_take]; omega
  have hrb : rightB (rngP l c.key c.en) = true := right_of (hu.sublist hsub) (fun p hp => (hm p (hsub.mem hp)).1) (by omega)
  unfold okR
  dsimp only
  rw [hrb, decide_eq_true n64, decide_eq_true h8]; rfl
theorem note_right {l : List Ow} {c q : Int} {r : Re} (h8 : l.length = 8) (ho : ∀ o, o ∈ l → mayO o = true) (q1 : 1 ≤ q) (q2 : q ≤ 1099511627776) (hr : okR r = true) : (noteO l c q r).length = 8 ∧ ∀ o, o ∈ noteO l c q r → mayO o = true := by
  have hm : mayO ⟨q, r⟩ = true := by
    unfold mayO
    dsimp only
    rw [if_neg (by omega), decide_eq_true q1, decide_eq_true q2, hr]; rfl
  unfold noteO
  split
  · refine ⟨by rw [List.length_set]; exact h8, fun o h => ?_⟩
    rcases List.mem_or_eq_of_mem_set h with h | rfl
    · exact ho o h
    · exact hm
  · exact ⟨h8, ho⟩
/-- P13.5: what is right stays right. -/
theorem apply_right {n : Int} {s : Sm} (h : Rs n s) (h0 : 0 ≤ n) (hn : n ≤ 4611686018427387904) (c : Cm) : Rs (n + 1) (applyP s c).1 := by
  have hs := h.mono (show n ≤ n + 1 by omega)
  unfold applyP
  split
  · exact hs
  rename_i hz
  have hz : sameC c c_zeroC = false := by simpa using hz
  split
  · exact hs
  rename_i hr
  have hr : rightC c = true := by simpa using hr
  split
  · exact hs
  split
  · exact hs
  obtain ⟨⟨r1, r2, r3⟩, r4⟩ := run_right h.up h.may h.len h0 hn hr hz
  obtain ⟨_, _, _, _, q1, q2, _⟩ := rc_says hr hz
  obtain ⟨n1, n2⟩ := note_right (c := c.c) h.eight h.own q1 q2 r4
  exact ⟨r1, r2, r3, n1, n2⟩
theorem play_right : ∀ (cs : List Cm) {n : Int} {s : Sm}, Rs n s → 0 ≤ n → n + cs.length ≤ 4611686018427387904 → Rs (n + cs.length) (playP s cs).1
  | [], n, s, h, _, _ => h.mono (by simp)
  | c :: r, n, s, h, h0, hn => by
    have hl : ((c :: r).length : Int) = (r.length : Int) + 1 := by simp
    have := play_right r (apply_right h h0 (by omega) c) (by omega) (by omega)
    exact this.mono (by omega)
end Go.Proofs.Ytahfpncfkcfogaa
/- States as they come in; a state's value that reads as one. No condition: nothing here speaks of a function. -/
namespace Go.Proofs.Ytahfpncfkcfogaa
set_option maxRecDepth 100000
open Go.ChangeShapes Go.WideShapes Go.ChangeAt Go.RowKit Go.Joins
theorem Try.cells30 : Try.prog.cellsOf 30 = 49 := by kernel_rfl
/-- A state that came in. -/
structure StIn (w : World) (l : List Pr) (A : Option Addr) (c : Nat) (L : List Co) : Prop where
  ps : PsOk w A c l
  ow : OwIn w L
section
variable {H : Type} {enc : TypeId × Value → H} {W : World}
theorem state_cells {fuel : Nat} {cs : List Value} {x : DataW H × List MemPlace} (ht : DataW.trod enc Try.prog W 0 (fun _ => true) true fuel 30 cs = some x) (hsz : ∀ n ∈ x.1.weights Try.prog 30, n ≤ reachBytes) :
    ∃ l A c L, cs = (stc (.slice A (List.length l) c) L).toList ∧ StIn W l A c L := by
  obtain ⟨ys, n', _, rfl, hlen, hyl, hfs⟩ := DataW.trod_struct Try.underlying30 ht
  rw [Try.cells30] at hlen
  have hyl6 : ys.length = 2 := hyl
  obtain ⟨y0, y1, rfl⟩ : ∃ y0 y1, ys = [y0, y1] := by
    match ys, hyl6 with
    | [y0, y1], _ => exact ⟨y0, y1, rfl⟩
  obtain ⟨c0, r, rfl, hr⟩ : ∃ c0 r, cs = c0 :: r ∧ r.length = 48 := by
    match cs, hlen with
    | c0 :: r, h => exact ⟨c0, r, rfl, by simpa using h⟩
  have g0 := hfs 0 _ rfl
  have g1 := hfs 1 _ rfl
  clear hfs
  change DataW.trod enc Try.prog W 0 (fun _ => true) true n' 22 (((c0 :: r).drop 0).take (Try.prog.cellsOf 22)) = some y0 at g0
  change DataW.trod enc Try.prog W 0 (fun _ => true) true n' 28 (((c0 :: r).drop 1).take (Try.prog.cellsOf 28)) = some y1 at g1
  rw [Try.cells22] at g0
  rw [Try.cells28, List.drop_succ_cons, List.drop_zero, List.take_of_length_le (by omega)] at g1
  have hw : ∀ k t (y : DataW H × List MemPlace), ([22, 28] : List TypeId)[k]? = some t → [y0, y1][k]? = some y → ∀ n ∈ y.1.weights Try.prog t, n ≤ reachBytes := fun k t y ht hy n hn => by
    refine hsz n ?_
    unfold DataW.weights
    rw [Try.underlying30]
    exact DataW.weights_mem_each (ts := [22, 28]) (j := k) ht (by rw [List.getElem?_map, hy]; rfl) n hn
  obtain ⟨A, c, l, e0, s0⟩ := ps_cell g0 (hw 0 _ _ rfl rfl)
  obtain ⟨L, e1, s1⟩ := owners_cells g1 (hw 1 _ _ rfl rfl)
  simp at e0
  subst e0 e1
  exact ⟨l, A, c, L, (stc_list _ _).symm, s0, s1⟩
end
section
variable {H : Type} {enc : TypeId × Value → H} {W : World} {b0 : Nat} {r : Reach} {v : Value} {d : DataW H} {p : List MemPlace} {ts : List TypeId} {ds : List (DataW H)} {j : Nat}
theorem state_in (hv : Value.okWide Try.prog W r b0 30 v) (h : DataW.Trod enc Try.prog W 0 (fun _ => true) true 30 v d p) (hsz : (DataW.weightsEach Try.prog ts ds).all (· ≤ reachBytes) = true) (ht : ts[j]? = some 30) (hd : ds[j]? = some d) :
    ∃ l A c L, v = .agg (stc (.slice A (List.length l) c) L) ∧ StIn W l A c L := by
  obtain ⟨cs, rfl, _⟩ := okWide_struct Try.underlying30 hv
  obtain ⟨fuel, hf⟩ := h
  obtain ⟨l, A, c, L, e, ok⟩ := state_cells hf fun n hn => by
    have := List.all_eq_true.1 hsz _ (DataW.weights_mem_each ht hd n hn)
    simpa using this
  exact ⟨l, A, c, L, congrArg Value.agg (Array.toList_inj.1 (by simpa [Value.cells] using e)), ok⟩
end
/-- The value of pairs p and owners L is the state s. -/
structure IsS (w : World) (p : Value) (L : List Co) (s : Sm) : Prop where
  pin : Pin w p s.l
  room : s.l.length ≤ 3518437208780
  fine : Fine w L
  is : ows L = s.o
/-- .. all of whose lists are of the call's own. -/
structure NewS (base : Nat) (w : World) (p : Value) (L : List Co) (s : Sm) : Prop where
  pin : Mine base w p s.l
  room : s.l.length ≤ 3518437208780
  eight : L.length = 8
  own : ∀ x, x ∈ L → Mine base w x.p x.o.r.l ∧ x.o.r.l.length ≤ 3518437208780
  is : ows L = s.o
theorem IsS.below {w w' : World} {p : Value} {L : List Co} {s : Sm} (h : IsS w p L s) (hb : Below w.heap.size w w') : IsS w' p L s := ⟨h.pin.below hb, h.room, h.fine.below hb, h.is⟩
theorem NewS.isS {base : Nat} {w : World} {p : Value} {L : List Co} {s : Sm} (h : NewS base w p L s) : IsS w p L s := ⟨h.pin.pin, h.room, ⟨h.eight, fun x hx => ⟨(h.own x hx).1.pin, (h.own x hx).2⟩⟩, h.is⟩
theorem NewS.below {base : Nat} {w w' : World} {p : Value} {L : List Co} {s : Sm} (h : NewS base w p L s) (hb : Below w.heap.size w w') : NewS base w' p L s := ⟨h.pin.below hb, h.room, h.eight, fun x hx => ⟨(h.own x hx).1.below hb, (h.own x hx).2⟩, h.is⟩
theorem NewS.mono {b0 b1 : Nat} {w : World} {p : Value} {L : List Co} {s : Sm} (h : NewS b1 w p L s) (hb : b0 ≤ b1) : NewS b0 w p L s := ⟨h.pin.mono hb, h.room, h.eight, fun x hx => ⟨(h.own x hx).1.mono hb, (h.own x hx).2⟩, h.is⟩
/-- .. through a write into an own block of before. -/
theorem NewS.apart {base : Nat} {w w' : World} {p : Value} {L : List Co} {s : Sm} {row : Option Nat} (h : NewS base w p L s) (hg : w.grownBy w' row) (hr : ∀ k, row = some k → k < base) : NewS base w' p L s := ⟨h.pin.apart hg hr, h.room, h.eight, fun x hx => ⟨(h.own x hx).1.apart hg hr, (h.own x hx).2⟩, h.is⟩
theorem IsS.form {w : World} {p : Value} {L : List Co} {s : Sm} (h : IsS w p L s) : ∃ A c, p = .slice A s.l.length c := by
  obtain ⟨A, c, e, _⟩ := h.pin
  exact ⟨A, c, e⟩
theorem IsS.zero (w : World) : IsS w (.slice none 0 0) zeroL zeroS := ⟨Pin.nil_ w, Nat.zero_le _, zero_fine w, rfl⟩
theorem StIn.isS {w : World} {l : List Pr} {A : Option Addr} {c : Nat} {L : List Co} (h : StIn w l A c L) : IsS w (.slice A l.length c) L ⟨l, ows L⟩ := ⟨h.ps.pin, h.ps.room, h.ow.fine, rfl⟩
end Go.Proofs.Ytahfpncfkcfogaa
