/- Own rows of cells; cells that came in; a letter that holds nothing but a cell. Conditions: a cell's attributes are eight numbers. -/
import Derived.Test.YtlnpfaoeockoiaaWk
import Derived.Test.YtlnpfaoeockoiaaWa
namespace Go.Proofs.Ytlnpfaoeockoiaa
set_option maxRecDepth 100000
open Go.RowKit
def clV (L : List Cl) : List (List Value) := L.map Cl.l
theorem clV_len (L : List Cl) : (clV L).length = L.length := List.length_map _
theorem clV_all {L : List Cl} (h : ∀ x ∈ L, x.a.length = 8) : AllV 21 (clV L) := fun y hy => by
  obtain ⟨x, hx, rfl⟩ := List.mem_map.1 hy
  exact ⟨Cl.len (h x hx), one_cl x⟩
/-- An own row of cells. -/
structure Cw (b : Nat) (w : World) (v : Value) (L : List Cl) : Prop where
  o : w.ownsRow b 35 21 v L.length (cellsV (clV L))
  l : ∀ x ∈ L, x.a.length = 8
theorem cell_parts : ∃ i z, Try.prog.info? 35 = some i ∧ i.zero = some z ∧ i.size = 21 ∧ i.bytes = 200 ∧ z.cells.size = 21 := ⟨_, _, rfl, rfl, rfl, rfl, rfl⟩
theorem Cw.nil_ (b : Nat) (w : World) : Cw b w (.slice none 0 0) [] := ⟨⟨rfl, .inl ⟨rfl, rfl⟩⟩, fun _ h => by cases h⟩
theorem Cw.form {b : Nat} {w : World} {v : Value} {L : List Cl} (h : Cw b w v L) : ∃ A c, v = .slice A L.length c ∧ L.length ≤ c ∧ c ≤ 9223372036854775807 := by
  obtain ⟨A, c, e, _, h1, h2, _⟩ := els_own_form h.o
  exact ⟨A, c, e, h1, by unfold maxLen at h2; omega⟩
theorem Cw.below {b : Nat} {w w' : World} {v : Value} {L : List Cl} (h : Cw b w v L) (hb : Below w.heap.size w w') : Cw b w' v L :=
  ⟨h.o.kept (grown_below hb) (by cases v.ownBlock <;> simp), h.l⟩
theorem lit_cell {x : Cl} (h : x.a.length = 8) (w : World) : (Instr.buildSlice 64 1 #[(0, .agg (clC x))]).run Try.prog w = .ok (.slice (some ⟨w.heap.size, 0, none⟩) 1 1) (w.alloc (.cells (clC x) 35)) := by
  obtain ⟨st, ⟨p1, p2⟩, ⟨v1, v2⟩, ⟨ck, cc, cq, ca, cb, co, cv⟩, a, s⟩ := x
  dsimp only at h
  obtain ⟨a0, a1, a2, a3, a4, a5, a6, a7, rfl⟩ := len8 h
  have u9 := Try.underlying64
  have z9 := Try.sizeOf35
  show (Instr.buildSlice 64 1 #[(0, .agg #[.int .i64 st, .int .i64 p1, .int .i64 p2, .int .i64 v1, .int .i64 v2, .int .i64 ck, .int .i64 cc, .int .i64 cq, .string ca, .string cb, .string co, .string cv, .int .i64 a0, .int .i64 a1, .int .i64 a2, .int .i64 a3, .int .i64 a4, .int .i64 a5, .int .i64 a6, .int .i64 a7, .bool s])]).run Try.prog w = .ok (.slice (some ⟨w.heap.size, 0, none⟩) 1 1) (w.alloc (.cells #[.int .i64 st, .int .i64 p1, .int .i64 p2, .int .i64 v1, .int .i64 v2, .int .i64 ck, .int .i64 cc, .int .i64 cq, .string ca, .string cb, .string co, .string cv, .int .i64 a0, .int .i64 a1, .int .i64 a2, .int .i64 a3, .int .i64 a4, .int .i64 a5, .int .i64 a6, .int .i64 a7, .bool s] 35))
  go_simp
section
variable {ops : Array Oper} {rest : List Oper} {d : Option Tmp} {ty : TypeId} {ps : String} {af : Array Edge} {a : Act} {w : World} {Q : Exit → Act → World → Prop} {x : Operand} {y : Cl}
theorem wpList_lit_cell (h8 : y.a.length = 8) (hx : a.eval x = .agg (clC y)) (h : wpList Try.prog ops Q rest (a.put d (.slice (some ⟨w.heap.size, 0, none⟩) 1 1)) (w.alloc (.cells (clC y) 35))) :
    wpList Try.prog ops Q ({ dst := d, op := .buildSlice 64 1 #[(0, x)], type := ty, pos := ps, after := af, guard := none } :: rest) a w :=
  wpList_plain rfl fun K hK => by
    unfold Oper.wp execOp
    simp only [Sem.run_bind, Sem.run_pure, Result.andThen_ok, List.map_toArray, List.map_cons, List.map_nil, hx, lit_cell h8]
    exact hK _ _ h
end
theorem wpList_append_cell {ops : Array Oper} {rest : List Oper} {o : Oper} {a : Act} {Q : Exit → Act → World → Prop} {w : World} (hgd : o.guard = none) (s x : Operand)
    (ho : o.op = .call { callee := .builtin .append, args := #[s, x], argTypes := #[64, 64] })
    {b g : Nat} {v : Value} {L : List Cl} {y : Cl} {t : TypeId} (hs : a.eval s = v) (h : Cw b w v L) (hx : a.eval x = .slice (some ⟨g, 0, none⟩) 1 1) (hr : Row w g t (clC y)) (h8 : y.a.length = 8) (hb : L.length ≤ 100000) (hbase : b ≤ w.heap.size)
    (hk : ∀ v' w', Cw b w' v' (L ++ [y]) → w.grownBy w' v.ownBlock → wpList Try.prog ops Q rest (a.put o.dst v') w') : wpList Try.prog ops Q (o :: rest) a w := by
  obtain ⟨i0, z0, hi, hz0, hz1, hz2, hz3⟩ := cell_parts
  have e : clV (L ++ [y]) = clV L ++ clV [y] := List.map_append
  have el : (L ++ [y]).length = L.length + 1 := by rw [List.length_append]; rfl
  have hl : ∀ x ∈ L ++ [y], x.a.length = 8 := fun x hx => (List.mem_append.1 hx).elim (h.l x) (fun h1 => by rw [List.mem_singleton.1 h1]; exact h8)
  have ha : AllV 21 (clV [y]) := clV_all (fun x hx => by rw [List.mem_singleton.1 hx]; exact h8)
  refine wpList_append_els hgd s x 64 ho b 35 i0 z0 200 Try.underlying64 hi hz0 hz1 hz2 (by omega) hz3 v L.length (clV L) hs h.o (some ⟨g, 0, none⟩) 1 1 (clV [y]) hx ha rfl (fun e => by cases e) (els_row hr ha (by show y.l = cellsV [y.l]; simp [cellsV])) (by omega) (by omega) hbase ?_
  intro v' w' h1 h2
  exact hk v' w' ⟨by rw [el, e]; exact h1, hl⟩ h2
/-- Two own rows of two types lie apart. -/
theorem own_apart {w : World} {b b' n n' s s' : Nat} {e e' : TypeId} {v u : Value} {xs ys : List Value} (h : w.ownsRow b e s v n xs) (k : w.ownsRow b' e' s' u n' ys) (hne : e ≠ e') : v.ownBlock = none ∨ v.ownBlock ≠ u.ownBlock := by
  rcases h.2 with ⟨rfl, _⟩ | ⟨g, c, cur, rfl, _, h1, _⟩
  · exact .inl rfl
  · rcases k.2 with ⟨rfl, _⟩ | ⟨g', c', cur', rfl, _, h2, _⟩
    · exact .inr (fun e => by cases e)
    · refine .inr (fun e0 => ?_)
      have e1 : some g = some g' := e0
      injection e1 with e1
      subst e1
      rw [h1] at h2
      injection h2 with h2
      injection h2 with _ h2
      exact hne h2
theorem By.apart {w w' : World} {b b' : Nat} {v u : Value} {zs : List Int} {L : List Cl} (h : By b w v zs) (k : Cw b' w u L) (hg : w.grownBy w' u.ownBlock) : By b w' v zs :=
  (show w.ownsRow b 5 1 v zs.length (cellsOf zs) from h).kept hg (own_apart h k.o (by decide))
/-- What an own row grows leaves the elder blocks as they were. -/
theorem Cw.grown {w w' : World} {b : Nat} {v : Value} {L : List Cl} (h : Cw b w v L) (hg : w.grownBy w' v.ownBlock) (hb : b ≤ w.heap.size) : Below b w w' :=
  ⟨hg.os, hg.tape, hg.output, hg.size, fun k hk => hg.block k (by omega) (fun e => by
    rcases h.o.2 with ⟨rfl, _⟩ | ⟨g, c, cur, rfl, h0, _⟩
    · cases e
    · have e : some k = some g := e
      injection e with e
      omega)⟩
/-- Cell j of what came in. -/
theorem ClsIn.at_ {W w : World} {A : Option Addr} {n c : Nat} {l : List Cl} (h : ClsIn W A n c l) (hb : Below W.heap.size W w) {j : Nat} {x : Cl} (hj : l[j]? = some x) : ∃ g off, A = some ⟨g, off, none⟩ ∧ w.rangeAt g (off + j * 21) x.l := by
  have hl : (l.map Cl.l)[j]? = some x.l := by rw [List.getElem?_map, hj]; rfl
  have hp : 0 < (l.map Cl.l).length := by
    rcases Nat.lt_or_ge j (l.map Cl.l).length with h1 | h1
    · omega
    · rw [List.getElem?_eq_none h1] at hl; cases hl
  obtain ⟨g, off, e, hg, hc⟩ := h.lies hp
  refine ⟨g, off, e, fun i v hv => ?_⟩
  have hi : i < 21 := by
    rcases Nat.lt_or_ge i 21 with h1 | h1
    · exact h1
    · rw [List.getElem?_eq_none (by rw [Cl.len (h.ok x (List.mem_of_getElem? hj)).a]; exact h1)] at hv; cases hv
  rw [hb.cell (p := ⟨g, off + j * 21 + i, none⟩) hg, hc j _ hl i hi, hv]
theorem made_len {w w' : World} {e : Ending} {zs : List Int} {L : Nat} (hl : zs.length = L) (h : MadeB w zs e w') : ∃ B d, e = .returned (.slice B L d) ∧ By w.heap.size w' (.slice B L d) zs ∧ Below w.heap.size w w' := by
  obtain ⟨u, rfl, hy, hb⟩ := h
  obtain ⟨B, d, rfl, _⟩ := hy.form
  subst hl
  exact ⟨B, d, rfl, hy, hb⟩
/-- Where an own row of cells lies. -/
theorem Cw.lies {b n c : Nat} {w : World} {A : Option Addr} {L : List Cl} (h : Cw b w (.slice A n c) L) : ∃ gw, ∀ k x, L[k]? = some x → A = some ⟨gw, 0, none⟩ ∧ gw < w.heap.size ∧ w.rangeAt gw (k * 21) x.l := by
  have ho := h.o
  have hn : n = L.length := by
    rcases ho.2 with ⟨e, h0⟩ | ⟨g, cap, cur, e, _⟩
    · injection e with _ e2 _; omega
    · injection e
  subst hn
  obtain ⟨A2, c2, e, _, _, _, h3⟩ := els_own_form ho
  obtain ⟨hE, _⟩ := els_own ho (clV_all h.l) (by omega)
  rcases A with _ | ⟨g, off, sp⟩
  · refine ⟨0, fun k x hk => ?_⟩
    obtain ⟨b2, o2, e2, _⟩ := hE (by have : k < L.length := by { rcases Nat.lt_or_ge k L.length with h1 | h1; exact h1; rw [List.getElem?_eq_none h1] at hk; cases hk }; rw [clV_len]; omega)
    cases e2
  · refine ⟨g, fun k x hk => ?_⟩
    obtain ⟨b2, o2, e2, hb2, hc⟩ := hE (by have : k < L.length := by { rcases Nat.lt_or_ge k L.length with h1 | h1; exact h1; rw [List.getElem?_eq_none h1] at hk; cases hk }; rw [clV_len]; omega)
    cases e2
    injection e with e3 _ _
    have h4 := h3 _ e3.symm
    have ho0 : off = 0 := h4.2
    subst ho0
    refine ⟨rfl, hb2, fun i v hv => ?_⟩
    have hi : i < 21 := by
      rcases Nat.lt_or_ge i 21 with h1 | h1
      · exact h1
      · rw [List.getElem?_eq_none (by rw [Cl.len (h.l x (List.mem_of_getElem? hk))]; exact h1)] at hv; cases hv
    have := hc k x.l (by unfold clV; rw [List.getElem?_map, hk]; rfl) i hi
    rw [Nat.zero_add] at this
    rw [this, hv]
theorem cl8 {y : Cl} (h : y.a.length = 8) : (ltC { zeroLt with x := y }).size = 51 := ltC_size (m := { zeroLt with x := y }) ⟨rfl, h, rfl⟩
theorem fill_lx {x : Cl} (h : x.a.length = 8) (w : World) : (Instr.build 37 #[(7, .agg (clC x))]).run Try.prog w = .ok (.agg (ltC { zeroLt with x := x })) w := by
  obtain ⟨st, ⟨p1, p2⟩, ⟨v1, v2⟩, ⟨ck, cc, cq, ca, cb, co, cv⟩, a, s⟩ := x
  dsimp only at h
  obtain ⟨a0, a1, a2, a3, a4, a5, a6, a7, rfl⟩ := len8 h
  kernel_rfl
theorem zeroC_ok : CmOk zeroC := ⟨by decide, by decide, by decide, by decide, by decide, by decide, by decide⟩
theorem noT_small : noT.size ≤ 140737488351232 := by decide
theorem ltin_x {x : Cl} (h : ClIn x) : LtIn { zeroLt with x := x } :=
  ⟨⟨rfl, h.a, rfl⟩, zeroC_ok, h.c, noT_small⟩
theorem encCl_right {x : Cl} (h : rightCl x = true) : encCl x = encX x := by unfold encCl; rw [if_pos h]
theorem encCl_wrong {x : Cl} (h : rightCl x = false) : encCl x = [] := by unfold encCl; rw [if_neg (by rw [h]; decide)]
end Go.Proofs.Ytlnpfaoeockoiaa
