/- Small functions of package letter; the program's RightCell, holdsOf. Conditions: the lists are as long as they are. -/
import Derived.Test.YtjkdccokiaejhaaQd
import Derived.Test.YtjkdccokiaejhaaQa
import Derived.Test.YtjkdccokiaejhaaQe
namespace Go.Proofs.Ytjkdccokiaejhaa
set_option maxRecDepth 100000
open Go.RowKit
theorem fill_at1 (d0 d1 d2 d3 d4 d5 d6 : Int) (w : World) : (Instr.build 26 #[(1, .agg (cA [d0, d1, d2, d3, d4, d5, d6]))]).run Try.prog w = .ok (.agg #[.int .i64 0, .int .i64 d0, .int .i64 d1, .int .i64 d2, .int .i64 d3, .int .i64 d4, .int .i64 d5, .int .i64 d6]) w := by kernel_rfl
section
variable {P : Program} {ops : Array Oper} {rest : List Oper} {d : Option Tmp} {ty T : TypeId} {ps : String} {af : Array Edge} {gd : Option (Nat × Bool)} {a : Act} {w : World} {Q : Exit → Act → World → Prop}
/-- A struct is built of one field, of none. -/
theorem wpList_build_one {i : Nat} {x : Operand} {u v : Value} (hw : Region.wanted ({ dst := d, op := .build T #[(i, x)], type := ty, pos := ps, after := af, guard := gd } : Oper) (yielded ops a.tmps) = true) (hx : a.eval x = u) (hf : (Instr.build T #[(i, u)]).run P w = .ok v w)
    (h : wpList P ops Q rest (a.put d v) w) : wpList P ops Q ({ dst := d, op := .build T #[(i, x)], type := ty, pos := ps, after := af, guard := gd } :: rest) a w :=
  wpList_step fun K hK => by
    rw [if_pos hw]
    unfold Oper.wp execOp
    simp only [List.map_toArray, List.map_cons, List.map_nil, hx, Sem.run_bind, hf, Result.andThen_ok, Sem.run_pure]
    exact hK _ _ h
theorem wpList_build_no {v : Value} (hw : Region.wanted ({ dst := d, op := .build T #[], type := ty, pos := ps, after := af, guard := gd } : Oper) (yielded ops a.tmps) = true) (hf : (Instr.build T #[]).run P w = .ok v w)
    (h : wpList P ops Q rest (a.put d v) w) : wpList P ops Q ({ dst := d, op := .build T #[], type := ty, pos := ps, after := af, guard := gd } :: rest) a w :=
  wpList_step fun K hK => by
    rw [if_pos hw]
    unfold Oper.wp execOp
    simp only [List.map_toArray, List.map_nil, Sem.run_bind, hf, Result.andThen_ok, Sem.run_pure]
    exact hK _ _ h
end
/-- '!=' of ballots, cells, letters. -/
theorem neq_bal (x1 x2 y1 y2 : Int) (w : World) : (binOp .neq 30 (.agg #[.int .i64 x1, .int .i64 x2]) (.agg #[.int .i64 y1, .int .i64 y2])).run Try.prog w = .ok (.bool (!(x1 == y1 && x2 == y2))) w := by
  rw [run_neq_struct, show (10000 : Nat) = 9998 + 2 from rfl, eqd_bal]
  rfl
theorem neq_cell {x y : Cl} (h : x.a.length = 8) (h' : y.a.length = 8) (w : World) : (binOp .neq 34 (.agg (clC x)) (.agg (clC y))).run Try.prog w = .ok (.bool (!sameCl x y)) w := by
  obtain ⟨st, ⟨p1, p2⟩, ⟨v1, v2⟩, ⟨kx, cx, qx, kax, kbx, kox, kvx⟩, ax, s⟩ := x
  obtain ⟨st', ⟨p1', p2'⟩, ⟨v1', v2'⟩, ⟨kx', cx', qx', kax', kbx', kox', kvx'⟩, ax', s'⟩ := y
  dsimp only at h h'
  obtain ⟨x0, x1, x2, x3, x4, x5, x6, x7, rfl⟩ := len8 h
  obtain ⟨x0', x1', x2', x3', x4', x5', x6', x7', rfl⟩ := len8 h'
  rw [run_neq_struct, show (10000 : Nat) = 9996 + 4 from rfl]
  have e := eqd_cell 9996 st p1 p2 v1 v2 kx cx qx kax kbx kox kvx x0 x1 x2 x3 x4 x5 x6 x7 s st' p1' p2' v1' v2' kx' cx' qx' kax' kbx' kox' kvx' x0' x1' x2' x3' x4' x5' x6' x7' s' w
  exact (congrArg (fun r => Result.andThen r fun b w' => Result.ok (Value.bool (!b)) w') e)
end Go.Proofs.Ytjkdccokiaejhaa
/- The program's RightCell. Conditions: a cell's attributes are eight numbers. -/
namespace Go.Proofs.Ytjkdccokiaejhaa
set_option maxRecDepth 100000
open Go.RowKit
def bareX (x : Cl) : Cl := { zeroCl with p := x.p }
theorem fill_cp (p q : Int) (w : World) : (Instr.build 34 #[(1, .agg #[.int .i64 p, .int .i64 q])]).run Try.prog w = .ok (.agg (clC { zeroCl with p := (p, q) })) w := by kernel_rfl
theorem CeAt.all {w : World} {b : Nat} {t : TypeId} {x : Cl} (h : CeAt w b t x) : w.rangeAt b 0 x.l := h.r.mid (A := []) (ys := x.l) (B := []) (by unfold clC; simp) rfl
theorem rightCl_eq (x : Cl) : rightCl x = (!(x.st == 0 && !sameCl x (bareX x)) && (!(x.s && (!(x.st == 1) || !(x.v.1 == 0 && x.v.2 == 0))) &&
    ((decide (0 ≤ x.st) && decide (x.st ≤ 3)) && (rightB x.p.1 x.p.2 && (rightB x.v.1 x.v.2 && (!ltP x.p x.v && (rightC x.c && rightAl x.a))))))) := by
  rw [Bool.eq_iff_iff]
  unfold rightCl sameCl bareX zeroCl
  simp only [Bool.and_eq_true, Bool.or_eq_true, Bool.not_eq_true', beq_iff_eq, sameP_iff, sameC_iff, decide_eq_true_eq, Bool.and_eq_false_iff, Bool.or_eq_false_iff, Bool.not_eq_false', beq_eq_false_iff_ne, ne_eq]
  have hz : x.v = (0, 0) ↔ x.v.1 = 0 ∧ x.v.2 = 0 := by rw [Prod.ext_iff]
  rw [hz]
  constructor
  · rintro ⟨h1, h2, h3, h4, h5, h6, h7, h8⟩
    refine ⟨?_, ?_, h1, h2, h3, h6, h4, h5⟩
    · by_cases h0 : x.st = 0
      · right
        rcases h8 with h8 | ⟨z1, z2, z3⟩
        · exact absurd h0 h8
        · refine ⟨h0, trivial, z3, z1, z2, ?_⟩
          rcases h7 with h7 | h7
          · exact h7
          · omega
      · exact .inl h0
    · rcases h7 with h7 | ⟨h7, h9⟩
      · exact .inl h7
      · exact .inr ⟨h7, h9⟩
  · rintro ⟨g1, g2, h1, h2, h3, h6, h4, h5⟩
    refine ⟨h1, h2, h3, h4, h5, h6, g2, ?_⟩
    rcases g1 with g1 | ⟨_, _, z3, z1, z2, _⟩
    · exact .inl g1
    · exact .inr ⟨z1, z2, z3⟩
end Go.Proofs.Ytjkdccokiaejhaa
/- What a Kind names: holdsOf. No condition. -/
namespace Go.Proofs.Ytjkdccokiaejhaa
set_option maxRecDepth 100000
open Go.RowKit
def okK (k : Int) : Bool := decide (1 ≤ k) && decide (k ≤ 11)
/-- What a kind names, as the program's own seven flags. -/
def hC (k : Int) : Array Value := #[.bool (okK k && nmI k), .bool (okK k && nmB k), .bool (okK k && nmC k), .bool (okK k && nmA k), .bool (okK k && nmX k), .bool (okK k && nmD k), .bool (okK k && nmZ k)]
theorem hC_none {k : Int} (h : okK k = false) : hC k = #[.bool false, .bool false, .bool false, .bool false, .bool false, .bool false, .bool false] := by unfold hC; rw [h]; rfl
end Go.Proofs.Ytjkdccokiaejhaa
/- The program's only: a letter without what its kind does not name. Results, stores of whole letters. Conditions: the lists are as long as they are. -/
namespace Go.Proofs.Ytjkdccokiaejhaa
set_option maxRecDepth 100000
open Go.RowKit
theorem ltC_size {m : Lt} (h : LtWf m) : (ltC m).size = 51 := by unfold ltC; rw [List.size_toArray]; exact Lt.len h
theorem results_ce {fn : Func} {tmps : Array Value} {w : World} {a h : Nat} {t : TypeId} {x : Cl} (hf : fn.results = #[.cell a 34]) (ht : tmps.getD a undef = .pointer (some ⟨h, 0, none⟩)) (L : CeAt w h t x) :
    (results fn tmps).run Try.prog w = .ok (.agg (clC x)) w :=
  results_cell_row hf tmps w h t _ _ _ ht L.r ce_under rfl (by rw [clC_size L.l]; exact ce_info)
theorem one_lt (m : Lt) : ∀ v, v ∈ m.l → v.oneCell' = true := fun v hv => by
  unfold Lt.l at hv
  simp only [List.mem_cons, List.mem_append, List.not_mem_nil, or_false] at hv
  rcases hv with rfl | rfl | rfl | rfl | rfl | rfl | rfl | hv | hv | hv | hv | rfl
  all_goals first | rfl | exact one_cm _ v hv | exact one_ints v hv | exact one_cl _ v hv
section
variable {ops : Array Oper} {rest : List Oper} {d : Option Tmp} {ty : TypeId} {ps : String} {af : Array Edge} {x u : Operand} {a : Act} {w : World} {Q : Exit → Act → World → Prop} {b o : Nat} {t : TypeId} {m y : Lt}
theorem wpList_store_lc {c : Cm} (hx : a.eval x = .pointer (some ⟨b, 7, none⟩)) (hy : a.eval u = .agg #[.int .i64 c.k, .int .i64 c.c, .int .i64 c.q, .string c.key, .string c.en, .string c.old, .string c.val]) (L : LAt w b t m) (h : ∀ w', LAt w' b t { m with c := c } → w.grownBy w' (some b) → wpList Try.prog ops Q rest (a.put d undef) w') :
    wpList Try.prog ops Q ({ dst := d, op := .store 32 x u, type := ty, pos := ps, after := af, guard := none } :: rest) a w :=
  wpList_plain rfl fun _ hK => wp_store_lc (y := c) rfl hx hy L fun w' h1 h2 => hK _ _ (h w' h1 h2)
theorem wpList_store_lzp {z : ByteArray}
    (hx : a.eval x = .pointer (some ⟨b, 50, none⟩)) (hy : a.eval u = .string z) (L : LAt w b t m) (h : ∀ w', LAt w' b t { m with z := z } → w.grownBy w' (some b) → wpList Try.prog ops Q rest (a.put d undef) w') :
    wpList Try.prog ops Q ({ dst := d, op := .store 9 x u, type := ty, pos := ps, after := af, guard := none } :: rest) a w :=
  wpList_plain rfl fun K hK => by
    have hz := L.z
    have hf := L.r.free 50
    have hp := L.put (m' := { m with z := z }) (A := m.hd ++ (m.c.l ++ (cellsR m.a ++ (m.x.l ++ cellsR m.d)))) (ys := [.string m.z]) (vs := [.string z]) (B := []) (o := 50) (by unfold Lt.l Lt.hd; simp) (by unfold Lt.l Lt.hd; simp) (by
      have h3 : m.c.l.length = 7 := rfl
      have h4 : m.hd.length = 7 := rfl
      have h5 := Cl.len L.wf.x
      simp only [List.length_append, length_cellsR, L.wf.a, L.wf.d, h3, h4, h5]) rfl ⟨L.wf.a, L.wf.x, L.wf.d⟩
    have hg := grown_setCells b [.string z] 50 w
    have h2 := hK _ _ (h _ hp hg)
    unfold Oper.wp execOp
    simp only [hx, hy]
    go_simp
    exact h2
end
theorem zero_lt : (#[.int .i64 0, .int .i64 0, .int .i64 0, .int .i64 0, .int .i64 0, .int .i64 0, .int .i64 0, .int .i64 0, .int .i64 0, .int .i64 0, .string ⟨#[]⟩, .string ⟨#[]⟩, .string ⟨#[]⟩, .string ⟨#[]⟩, .int .i64 0, .int .i64 0, .int .i64 0, .int .i64 0, .int .i64 0, .int .i64 0, .int .i64 0, .int .i64 0, .int .i64 0, .int .i64 0, .int .i64 0, .int .i64 0, .int .i64 0, .int .i64 0, .int .i64 0, .int .i64 0, .string ⟨#[]⟩, .string ⟨#[]⟩, .string ⟨#[]⟩, .string ⟨#[]⟩, .int .i64 0, .int .i64 0, .int .i64 0, .int .i64 0, .int .i64 0, .int .i64 0, .int .i64 0, .int .i64 0, .bool false, .int .i64 0, .int .i64 0, .int .i64 0, .int .i64 0, .int .i64 0, .int .i64 0, .int .i64 0, .string ⟨#[]⟩] : Array Value) = ltC zeroLt := rfl
theorem zero_cl : (#[.int .i64 0, .int .i64 0, .int .i64 0, .int .i64 0, .int .i64 0, .int .i64 0, .int .i64 0, .int .i64 0, .string ⟨#[]⟩, .string ⟨#[]⟩, .string ⟨#[]⟩, .string ⟨#[]⟩, .int .i64 0, .int .i64 0, .int .i64 0, .int .i64 0, .int .i64 0, .int .i64 0, .int .i64 0, .int .i64 0, .bool false] : Array Value) = clC zeroCl := rfl
theorem wf_zeroLt : LtWf zeroLt := ⟨rfl, rfl, rfl⟩
theorem below_own {a b c : World} {g : Nat} (h : Below a.heap.size a b) (hg : b.grownBy c (some g)) (hl : a.heap.size ≤ g) : Below a.heap.size a c := by
  obtain ⟨e1, e2, e3, e4, e5⟩ := hg
  have := h.size
  exact h.trans ⟨e1, e2, e3, e4, fun k hk => e5 k (by omega) (fun e => by injection e; omega)⟩
theorem flags7 {w : World} {g : Nat} {t : TypeId} {b0 b1 b2 b3 b4 b5 b6 : Value} (h : Row w g t #[b0, b1, b2, b3, b4, b5, b6]) : w.cell? ⟨g, 0, none⟩ = some b0 ∧ w.cell? ⟨g, 1, none⟩ = some b1 ∧ w.cell? ⟨g, 2, none⟩ = some b2 ∧ w.cell? ⟨g, 3, none⟩ = some b3 ∧ w.cell? ⟨g, 4, none⟩ = some b4 ∧ w.cell? ⟨g, 5, none⟩ = some b5 ∧ w.cell? ⟨g, 6, none⟩ = some b6 := ⟨h.cell 0, h.cell 1, h.cell 2, h.cell 3, h.cell 4, h.cell 5, h.cell 6⟩
end Go.Proofs.Ytjkdccokiaejhaa
