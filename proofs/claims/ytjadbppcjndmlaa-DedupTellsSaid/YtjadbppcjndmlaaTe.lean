/- What DedupTells holds along its way. No condition. -/
import Derived.Test.YtjadbppcjndmlaaRs
namespace Go.Proofs.Ytjadbppcjndmlaa
open Go.RowKit
/-- A state of eight owners is built, in the walk. -/
theorem wpList_build35 {ops : Array Oper} {rest : List Oper} {d : Option Tmp} {ty : TypeId} {ps : String} {af : Array Edge} {x : Operand} {a : Act} {w : World} {Q : Exit → Act → World → Prop} {L : List Co}
    (hx : a.eval x = .agg (arr L)) (hl : L.length = 8) (h : wpList Try.prog ops Q rest (a.put d (.agg (stA L))) w) :
    wpList Try.prog ops Q ({ dst := d, op := .build 35 #[(1, x)], type := ty, pos := ps, after := af, guard := none } :: rest) a w :=
  wpList_plain rfl fun K hK => by
    unfold Oper.wp
    rw [exec_state (o := { dst := d, op := .build 35 #[(1, x)], type := ty, pos := ps, after := af, guard := none }) rfl hx hl]
    exact hK _ _ h
/-- A reply in a block. -/
structure Rb (w : World) (h : Nat) (r : Re) (A : Option Addr) (c : Nat) : Prop where
  row : Row w h 25 #[.int .i64 r.why, .bool r.fnd, .string r.val, .int .i64 r.ver, .slice A r.l.length c]
  pin : Pin w (.slice A r.l.length c) r.l
theorem Rb.below {w w' : World} {h : Nat} {r : Re} {A : Option Addr} {c : Nat} (b : Rb w h r A c) (hb : Below w.heap.size w w') : Rb w' h r A c := ⟨b.row.below hb b.row.lt, b.pin.below hb⟩
/-- All that is known at the loop's head. -/
structure Te (W w : World) (L M : List Co) (r : Re) (A : Option Addr) (q : Nat) (v : Re) (h1 : Nat) (A1 : Option Addr) (c1 : Nat) (h2 : Nat) (A2 : Option Addr) (c2 : Nat) (h3 : Nat) : Prop where
  b : B2 W w L r (.slice A r.l.length q)
  e1 : Rb w h1 v A1 c1
  e2 : Rb w h2 v A2 c2
  r3 : Row w h3 28 (arr M)
  f3 : Fine w M
theorem Te.below {W w w' : World} {L M : List Co} {r : Re} {A : Option Addr} {q : Nat} {v : Re} {h1 : Nat} {A1 : Option Addr} {c1 : Nat} {h2 : Nat} {A2 : Option Addr} {c2 : Nat} {h3 : Nat} (t : Te W w L M r A q v h1 A1 c1 h2 A2 c2 h3) (hb : Below w.heap.size w w') :
    Te W w' L M r A q v h1 A1 c1 h2 A2 c2 h3 := ⟨t.b.below hb, t.e1.below hb, t.e2.below hb, t.r3.below hb t.r3.lt, t.f3.below hb⟩
/-- Which place the client's is. -/
theorem place_wrap {c : Int} (hc : -9223372036854775808 ≤ c ∧ c ≤ 9223372036854775807) {k : Nat} (hk : k < 8) : ((k : Int) == wrap64 (c - 1)) = (cliB c && decide ((c - 1).toNat = k)) := by
  rw [Bool.eq_iff_iff]
  unfold cliB
  simp only [beq_iff_eq, Bool.and_eq_true, decide_eq_true_eq]
  unfold wrap64
  constructor <;> intro h <;> omega
/-- What stands at a place behind Note. -/
theorem note_at {L : List Co} {c s : Int} {r : Re} {k : Nat} {x : Co} (hx : L[k]? = some x) : (noteO (ows L) c s r)[k]? = some (if (cliB c && decide ((c - 1).toNat = k)) = true then ⟨s, r⟩ else x.o) := by
  have hk : k < (ows L).length := by
    rw [ows_len]
    rcases Nat.lt_or_ge k L.length with h1 | h1
    · exact h1
    · rw [List.getElem?_eq_none h1] at hx; cases hx
  unfold noteO
  cases cliB c
  · simp only [Bool.false_and]
    exact ows_at hx
  · simp only [Bool.true_and, if_true]
    by_cases h : (c - 1).toNat = k
    · subst h
      rw [List.getElem?_set_self hk, decide_eq_true rfl]; rfl
    · rw [List.getElem?_set_ne h, decide_eq_false h]
      exact ows_at hx
/-- A reply copied into a block above the boxes. -/
theorem five_b2 {W w : World} {L : List Co} {r : Re} {p : Value} {g : Nat} (h : B2 W w L r p) (hg : W.heap.size + 1 < g) (u0 u1 u2 u3 u4 : Value) :
    B2 W (((((w.setCell ⟨g, 0, none⟩ u0).setCell ⟨g, 1, none⟩ u1).setCell ⟨g, 2, none⟩ u2).setCell ⟨g, 3, none⟩ u3).setCell ⟨g, 4, none⟩ u4).drew L r p := by
  have one : ∀ {w : World} (i : Nat) (u : Value), B2 W w L r p → B2 W (w.setCell ⟨g, i, none⟩ u) L r p := fun i u h =>
    ⟨h.r0.same (Below.heap_setCell _ ⟨g, i, none⟩ u W.heap.size (by show W.heap.size ≠ g; omega)), h.r1.same (Below.heap_setCell _ ⟨g, i, none⟩ u (W.heap.size + 1) (by show W.heap.size + 1 ≠ g; omega)), h.bel.setCell (p := ⟨g, i, none⟩) (by show W.heap.size ≤ g; omega) u⟩
  have z := one 4 u4 (one 3 u3 (one 2 u2 (one 1 u1 (one 0 u0 h))))
  exact ⟨z.r0.drew, z.r1.drew, z.bel.drew⟩
/-- An owner in a block, beside all that. -/
structure Tr (W w : World) (L M : List Co) (r : Re) (A : Option Addr) (q : Nat) (v : Re) (h1 : Nat) (A1 : Option Addr) (c1 : Nat) (h2 : Nat) (A2 : Option Addr) (c2 : Nat) (h3 h4 : Nat) (o : Ow) (Ao : Option Addr) (co : Nat) : Prop where
  te : Te W w L M r A q v h1 A1 c1 h2 A2 c2 h3
  row : Row w h4 27 #[.int .i64 o.s, .int .i64 o.r.why, .bool o.r.fnd, .string o.r.val, .int .i64 o.r.ver, .slice Ao o.r.l.length co]
  pin : Pin w (.slice Ao o.r.l.length co) o.r.l
theorem Tr.below {W w w' : World} {L M : List Co} {r : Re} {A : Option Addr} {q : Nat} {v : Re} {h1 : Nat} {A1 : Option Addr} {c1 : Nat} {h2 : Nat} {A2 : Option Addr} {c2 : Nat} {h3 h4 : Nat} {o : Ow} {Ao : Option Addr} {co : Nat} (t : Tr W w L M r A q v h1 A1 c1 h2 A2 c2 h3 h4 o Ao co) (hb : Below w.heap.size w w') :
    Tr W w' L M r A q v h1 A1 c1 h2 A2 c2 h3 h4 o Ao co := ⟨t.te.below hb, t.row.below hb t.row.lt, t.pin.below hb⟩
theorem six_put {a b c d e f u0 u1 u2 u3 u4 u5 : Value} : ((((((#[a, b, c, d, e, f] : Array Value).setIfInBounds 0 u0).setIfInBounds 1 u1).setIfInBounds 2 u2).setIfInBounds 3 u3).setIfInBounds 4 u4).setIfInBounds 5 u5 = #[u0, u1, u2, u3, u4, u5] := by simp
theorem Row.six_put {w : World} {h : Nat} {t : TypeId} {a b c d e f : Value} (r : Row w h t #[a, b, c, d, e, f]) (u0 u1 u2 u3 u4 u5 : Value) :
    Row ((((((w.setCell ⟨h, 0, none⟩ u0).setCell ⟨h, 1, none⟩ u1).setCell ⟨h, 2, none⟩ u2).setCell ⟨h, 3, none⟩ u3).setCell ⟨h, 4, none⟩ u4).setCell ⟨h, 5, none⟩ u5) h t #[u0, u1, u2, u3, u4, u5] := by
  have z := (((((r.put 0 u0).put 1 u1).put 2 u2).put 3 u3).put 4 u4).put 5 u5
  rw [Go.Proofs.Ytjadbppcjndmlaa.six_put] at z
  exact z
theorem six_below {B : Nat} {a w : World} {h : Nat} (hb : Below B a w) (hh : B ≤ h) (u0 u1 u2 u3 u4 u5 : Value) : Below B a ((((((w.setCell ⟨h, 0, none⟩ u0).setCell ⟨h, 1, none⟩ u1).setCell ⟨h, 2, none⟩ u2).setCell ⟨h, 3, none⟩ u3).setCell ⟨h, 4, none⟩ u4).setCell ⟨h, 5, none⟩ u5) :=
  (((((hb.setCell (p := ⟨h, 0, none⟩) hh u0).setCell (p := ⟨h, 1, none⟩) hh u1).setCell (p := ⟨h, 2, none⟩) hh u2).setCell (p := ⟨h, 3, none⟩) hh u3).setCell (p := ⟨h, 4, none⟩) hh u4).setCell (p := ⟨h, 5, none⟩) hh u5
end Go.Proofs.Ytjadbppcjndmlaa
