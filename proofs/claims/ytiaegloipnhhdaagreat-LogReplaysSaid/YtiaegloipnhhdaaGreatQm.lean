/- The document's own Log in memory. No condition: no walk. -/
import Derived.Test.YtiaegloipnhhdaaGreatQk
import Derived.Test.YtiaegloipnhhdaaGreatQl
import Derived.Test.YtiaegloipnhhdaaGreatQf
import Derived.Test.YtiaegloipnhhdaaGreatQg
import Derived.Test.YtiaegloipnhhdaaGreatQa
import Derived.LoopTactic
import Derived.BigQuiet
import Derived.Lib.MinMax
namespace Go.Proofs.YtiaegloipnhhdaaGreat
set_option maxRecDepth 100000
open Go.RowKit
def iV (k : List Lc) : List (List Value) := k.map fun e => [.int .i64 e.i.1, .int .i64 e.i.2]
def cV (k : List Lc) : List (List Value) := k.map fun e => e.c.l
theorem iV_len (k : List Lc) : (iV k).length = k.length := List.length_map _
theorem cV_len (k : List Lc) : (cV k).length = k.length := List.length_map _
theorem iV_all (k : List Lc) : AllV 2 (iV k) := fun x hx => by
  obtain ⟨e, _, rfl⟩ := List.mem_map.1 hx
  exact ⟨rfl, fun u hu => by simp at hu; rcases hu with rfl | rfl <;> rfl⟩
theorem cV_all {k : List Lc} (h : ∀ e, e ∈ k → e.c.a.length = 8) : AllV 21 (cV k) := fun x hx => by
  obtain ⟨e, he, rfl⟩ := List.mem_map.1 hx
  exact ⟨Cl.len (h e he), one_cl e.c⟩
theorem iV_app (k l : List Lc) : iV (k ++ l) = iV k ++ iV l := List.map_append
theorem cV_app (k l : List Lc) : cV (k ++ l) = cV k ++ cV l := List.map_append
/-- A Log's nine cells. -/
def lgC (vI vC : Value) (d : List Int) : Array Value := (vI :: vC :: d.map (Value.int .i64)).toArray
theorem lgC_cut (vI vC : Value) (d : List Int) {k : Nat} (hk : k < d.length) : (lgC vI vC d)[2 + k]? = some (.int .i64 (ix d k)) := by
  unfold lgC
  rw [List.getElem?_toArray, show 2 + k = k + 1 + 1 by omega, List.getElem?_cons_succ, List.getElem?_cons_succ, List.getElem?_map, List.getElem?_eq_getElem hk, ix_lt _ hk]
  rfl
theorem lgC_put0 (vI vC u : Value) (d : List Int) : (lgC vI vC d).setIfInBounds 0 u = lgC u vC d := by unfold lgC; rw [List.setIfInBounds_toArray]; rfl
theorem lgC_put1 (vI vC u : Value) (d : List Int) : (lgC vI vC d).setIfInBounds 1 u = lgC vI u d := by unfold lgC; rw [List.setIfInBounds_toArray]; rfl
theorem lgC_cutp (vI vC : Value) (d : List Int) (k : Nat) (z : Int) : (lgC vI vC d).setIfInBounds (2 + k) (.int .i64 z) = lgC vI vC (d.set k z) := by
  unfold lgC
  rw [List.setIfInBounds_toArray, show 2 + k = k + 1 + 1 by omega, List.set_cons_succ, List.set_cons_succ, List.map_set]
def roO (g : Nat) (vI vC : Value) (k : Nat) : Prop := k = g ∨ vI.ownBlock = some k ∨ vC.ownBlock = some k
section
variable {base g : Nat} {w w' : World} {vI vC : Value} {k : List Lc} {d : List Int}
end
end Go.Proofs.YtiaegloipnhhdaaGreat
/- The document's Gone, at, Cell. No condition. -/
namespace Go.Proofs.YtiaegloipnhhdaaGreat
set_option maxRecDepth 100000
open Go.RowKit
theorem refrightinst_any (r s : Int) (w : World) : Calls Tryz.prog 41 #[.agg #[.int .i64 r, .int .i64 s]] w fun e w' => e = .returned (.bool (rightI r s)) ∧ Below w.heap.size w w' := by
  show Calls _ _ _ w fun e w' => e = .returned (.bool ((decide (0 ≤ r) && decide (r < 7)) && decide (1 ≤ s) && decide (s ≤ 1073741824))) ∧ Below w.heap.size w w'
  go_enter Tryz.func41, Tryz.ntmps41
  go_wp2
  all_goals (go_ret; exact ⟨ret_bool (by first | (simp [*]; done) | (simp [*] <;> omega)), (Below.refl _ _).alloc (Nat.le_refl _) _⟩)
theorem gone_right {d : List Int} {i1 i2 : Int} {r : Nat} (h : i1 = r) (hr : rightI i1 i2 = true) : goneL d (i1, i2) = decide (i2 ≤ ix d r) := by
  unfold goneL
  rw [hr, Bool.true_and, h]
  rfl
end Go.Proofs.YtiaegloipnhhdaaGreat
/- The document's at, Cell. No condition. -/
namespace Go.Proofs.YtiaegloipnhhdaaGreat
set_option maxRecDepth 100000
open Go.RowKit
theorem cell_below {n b o : Nat} {w w' : World} (h : Below n w w') (hb : b < n) : w'.cell? ⟨b, o, none⟩ = w.cell? ⟨b, o, none⟩ := by simp only [World.cell?, h.block b hb]
theorem here_mid {k : List Lc} {i : Int × Int} {e : Lc} (h : k[posL k i]? = some e) : hereL k i = sameP e.i i := by unfold hereL; rw [h]
theorem here_end {k : List Lc} {i : Int × Int} (h : k[posL k i]? = none) : hereL k i = false := by unfold hereL; rw [h]
end Go.Proofs.YtiaegloipnhhdaaGreat
/- The document's Cell. Condition: the list rises. -/
namespace Go.Proofs.YtiaegloipnhhdaaGreat
set_option maxRecDepth 100000
open Go.RowKit
theorem results_cb {fn : Func} {tmps : Array Value} {w : World} {a b h : Nat} {t : TypeId} {x : Cl} {v : Value} (hf : fn.results = #[.cell a 38, .tmp b]) (ht : tmps[a]? = some (.pointer (some ⟨h, 0, none⟩))) (L : CeAt w h t x) (hb : tmps[b]? = some v) :
    (results fn tmps).run Tryz.prog w = .ok (.tuple #[.agg (clC x), v]) w := by
  have hld := run_loadVar_row w h t 38 (clC x) _ _ L.r ce_under rfl (by rw [clC_size L.l]; exact ce_info)
  simp only [results, hf]
  simp [asAddr, ht, hb, hld]
def cellV (o : Option Cl) : Value := .tuple #[.agg (clC (o.getD zeroCl)), .bool o.isSome]
end Go.Proofs.YtiaegloipnhhdaaGreat
/- The document's Top. Conditions: the instances that have cells are of replicas. -/
namespace Go.Proofs.YtiaegloipnhhdaaGreat
set_option maxRecDepth 100000
open Go.RowKit
/-- The greatest slots of the first j. -/
def topN (k : List Lc) (d : List Int) (j : Nat) : List Int := (k.take j).foldl topE d
theorem topN_zero (k : List Lc) (d : List Int) : topN k d 0 = d := rfl
theorem topN_step {k : List Lc} {d : List Int} {j : Nat} {e : Lc} (he : k[j]? = some e) : topN k d (j + 1) = topE (topN k d j) e := by
  unfold topN
  rw [List.take_add_one, he, List.foldl_append]
  rfl
theorem topN_all {k : List Lc} {d : List Int} {n : Nat} (h : k.length = n) : topN k d n = k.foldl topE d := by unfold topN; rw [List.take_of_length_le (by omega)]
theorem topN_len (k : List Lc) (d : List Int) (j : Nat) : (topN k d j).length = d.length := by
  unfold topN
  generalize k.take j = l
  induction l generalizing d with
  | nil => rfl
  | cons e l ih => rw [List.foldl_cons, ih]; unfold topE; rw [List.length_set]
theorem cA_cellk {w : World} {b : Nat} {t : TypeId} {d : List Int} (h : Row w b t (cA d)) {r : Nat} (hr : r < d.length) : w.cell? ⟨b, r, none⟩ = some (.int .i64 (ix d r)) := row_cA h r hr
theorem cA_putk (d : List Int) (r : Nat) (z : Int) : (cA d).setIfInBounds r (.int .i64 z) = cA (d.set r z) := by unfold cA cellsR; rw [List.setIfInBounds_toArray, List.map_set]
theorem results_de {fn : Func} {tmps : Array Value} {w : World} {a h : Nat} {t : TypeId} {d : List Int} (hf : fn.results = #[.cell a 26]) (ht : tmps.getD a undef = .pointer (some ⟨h, 0, none⟩)) (L : Row w h t (cA d)) (hd : d.length = 7) :
    (results fn tmps).run Tryz.prog w = .ok (.agg (cA d)) w :=
  results_cell_row hf tmps w h t _ _ _ ht L de_under rfl (by unfold cA; rw [List.size_toArray, length_cellsR, hd]; exact de_info)
/-- While Top goes on: the answer's block, the one that is filled. -/
structure Tz (W w : World) (d : List Int) : Prop where
  a : Row w W.heap.size 26 (cA zero7)
  b : Row w (W.heap.size + 1) 26 (cA d)
  low : Below W.heap.size W w
theorem Tz.put {W w : World} {d : List Int} (h : Tz W w d) (r : Nat) (z : Int) : Tz W (w.setCell ⟨W.heap.size + 1, r, none⟩ (.int .i64 z)) (d.set r z) :=
  ⟨h.a.grown (grown_put (grown_refl w (some (W.heap.size + 1))) r _) (by simp), cA_putk d r z ▸ h.b.put r _, h.low.setCell (by show W.heap.size ≤ W.heap.size + 1; omega) _⟩
theorem Tz.drew {W w : World} {d : List Int} (h : Tz W w d) : Tz W w.drew d := ⟨h.a.drewN 1, h.b.drewN 1, kept_drewN h.low 1⟩
theorem de_all (d : List Int) : (cA d).all (·.oneCell') = true := all_oneCell_toArray (fun v hv => one_ints v hv)
theorem cA_seven {d : List Int} (h : d.length = 7) : (cA d).size = 7 := by unfold cA; rw [List.size_toArray, length_cellsR, h]
section
variable {ops : Array Oper} {rest : List Oper} {dd : Option Tmp} {ty : TypeId} {ps : String} {af : Array Edge} {x u : Operand} {a : Act} {w : World} {Q : Exit → Act → World → Prop} {b : Nat} {t : TypeId}
/-- Deps are stored, whole. -/
theorem wpList_store_de {d d' : List Int} (h7 : d.length = 7) (h7' : d'.length = 7) (hx : a.eval x = .pointer (some ⟨b, 0, none⟩)) (hy : a.eval u = .agg (cA d')) (R : Row w b t (cA d))
    (h : ∀ w', Row w' b t (cA d') → w.grownBy w' (some b) → wpList Tryz.prog ops Q rest (a.put dd undef) w') :
    wpList Tryz.prog ops Q ({ dst := dd, op := .store 26 x u, type := ty, pos := ps, after := af, guard := none } :: rest) a w :=
  wpList_plain rfl fun K hK => by
    unfold Oper.wp execOp
    simp only [hx, hy, Instr.storeAt, Instr.sureAddr, Sem.run_bind, Sem.run_pure, Result.andThen_ok, run_storeVar_row w b t 26 _ _ R (by rw [cA_seven h7']; exact de_info) (by rw [cA_seven h7, cA_seven h7']) (de_all d')]
    exact hK _ _ (h _ (setRow_heap w b _ _ _ _ R) ⟨rfl, rfl, rfl, by simp, fun k _ hk => setRow_other w b k _ (fun e => hk (by rw [e]))⟩)
end
end Go.Proofs.YtiaegloipnhhdaaGreat
/- A call in a block of its own; light. Conditions: a call that came in. -/
namespace Go.Proofs.YtiaegloipnhhdaaGreat
set_option maxRecDepth 100000
open Go.RowKit
theorem ga_under : Tryz.prog.underlying 40 = some (.struct (Tryz.prog.fieldsOf 40)) := by kernel_rfl
theorem ga_info : (Tryz.prog.info? 40).map (·.size) = some 31 := by kernel_rfl
theorem gaC_size {x : Ga} (h : GaOk x) : (gaC x).size = 31 := by unfold gaC; rw [List.size_toArray]; exact Ga.len h
theorem ga_all (x : Ga) : (gaC x).all (·.oneCell') = true := all_oneCell_toArray (fun v hv => by
  unfold Ga.l at hv
  simp only [List.mem_cons, List.mem_append] at hv
  rcases hv with rfl | rfl | rfl | hv | hv
  · rfl
  · rfl
  · rfl
  · exact one_cl x.c v hv
  · exact one_ints v hv)
/-- A call in a block of its own. -/
structure GaAt (w : World) (b : Nat) (x : Ga) : Prop where
  r : Row w b 40 (gaC x)
  ok : GaOk x
section
variable {w w' : World} {b : Nat} {x : Ga}
theorem GaAt.kept (h : GaAt w b x) (hb : Below w.heap.size w w') : GaAt w' b x := ⟨h.r.below hb h.r.lt, h.ok⟩
theorem GaAt.grown {row : Option Nat} (h : GaAt w b x) (hg : w.grownBy w' row) (hn : some b ≠ row) : GaAt w' b x := ⟨h.r.grown hg hn, h.ok⟩
theorem GaAt.kind (h : GaAt w b x) : w.cell? ⟨b, 0, none⟩ = some (.int .i64 x.k) := h.r.cell 0
theorem GaAt.i0 (h : GaAt w b x) : w.cell? ⟨b, 1, none⟩ = some (.int .i64 x.i.1) := h.r.cell 1
theorem GaAt.i1 (h : GaAt w b x) : w.cell? ⟨b, 2, none⟩ = some (.int .i64 x.i.2) := h.r.cell 2
theorem GaAt.cell (h : GaAt w b x) : w.rangeAt b 3 x.c.l := h.r.mid (A := [.int .i64 x.k, .int .i64 x.i.1, .int .i64 x.i.2]) (B := cellsR x.u) (by unfold gaC Ga.l; simp) rfl
theorem GaAt.upto (h : GaAt w b x) : w.rangeAt b 24 (cellsR x.u) := h.r.mid (A := [.int .i64 x.k, .int .i64 x.i.1, .int .i64 x.i.2] ++ x.c.l) (B := []) (by unfold gaC Ga.l; simp) (by rw [List.length_append, Cl.len h.ok.c.a]; rfl)
theorem GaAt.new (h : GaOk x) (w : World) : GaAt (w.alloc (.cells (gaC x) 40)) w.heap.size x := ⟨Row.new w _ _, h⟩
end
theorem GasIn.at_ {W w : World} {A : Option Addr} {n c : Nat} {l : List Ga} (h : GasIn W A n c l) (hb : Below W.heap.size W w) {j : Nat} {x : Ga} (hj : l[j]? = some x) : ∃ g off, A = some ⟨g, off, none⟩ ∧ w.rangeAt g (off + j * 31) x.l := by
  have hl : (l.map Ga.l)[j]? = some x.l := by rw [List.getElem?_map, hj]; rfl
  obtain ⟨g, off, e, hg, hc⟩ := Els.at_ h.lies hl
  refine ⟨g, off, e, fun i v hv => ?_⟩
  have hi : i < 31 := by
    have := (List.getElem?_eq_some_iff.1 hv).1
    rwa [Ga.len (h.ok x (List.mem_of_getElem? hj))] at this
  have h2 := hc i hi
  rw [hv] at h2
  exact (hb.cell (p := ⟨g, off + j * 31 + i, none⟩) hg).trans h2
theorem zero_ga : (#[.int .i64 0, .int .i64 0, .int .i64 0, .int .i64 0, .int .i64 0, .int .i64 0, .int .i64 0, .int .i64 0, .int .i64 0, .int .i64 0, .int .i64 0, .string ⟨#[]⟩, .string ⟨#[]⟩, .string ⟨#[]⟩, .string ⟨#[]⟩, .int .i64 0, .int .i64 0, .int .i64 0, .int .i64 0, .int .i64 0, .int .i64 0, .int .i64 0, .int .i64 0, .bool false, .int .i64 0, .int .i64 0, .int .i64 0, .int .i64 0, .int .i64 0, .int .i64 0, .int .i64 0] : Array Value).size = 31 := rfl
def sizeC (c : Cm) : Nat := c.key.size + c.en.size + c.old.size + c.val.size
def lightB (c : Cl) : Bool := decide (sizeC c.c < 500)
set_option maxHeartbeats 2000000 in
theorem light_any (c : Cl) (ok : ClIn c) (w : World) : Calls Tryz.prog 6 #[.agg (clC c)] w fun e w' => e = .returned (.bool (lightB c)) ∧ Below w.heap.size w w' := by
  have HL := hide (CeAt.new ok.a w 38)
  have HB := hide ((Below.refl w.heap.size w).alloc (Nat.le_refl _) (.cells (clC c) 38))
  obtain ⟨_, _, _, n1, n2, n3, n4⟩ := ok.c
  have e : lightB c = decide (((c.c.key.size : Int) + c.c.en.size + c.c.old.size + c.c.val.size) < 500) := by unfold lightB sizeC; exact decide_eq_decide.2 (by omega)
  rw [e]
  have HC := hide HL.out.c
  clear ok e
  go_enter Tryz.func6, Tryz.ntmps6
  go_upto_region 1 with (fail)
  generalize w.alloc (.cells (clC c) 38) = w1 at HC HB ⊢
  have c8 : w1.cell? ⟨w.heap.size, 8, none⟩ = some (.string c.c.key) := HC.out 3 _ rfl
  have c9 : w1.cell? ⟨w.heap.size, 9, none⟩ = some (.string c.c.en) := HC.out 4 _ rfl
  have c10 : w1.cell? ⟨w.heap.size, 10, none⟩ = some (.string c.c.old) := HC.out 5 _ rfl
  have c11 : w1.cell? ⟨w.heap.size, 11, none⟩ = some (.string c.c.val) := HC.out 6 _ rfl
  clear HL HC
  go_wp2
  all_goals (go_ret; exact ⟨ret_bool (Eq.refl _), HB.out⟩)
end Go.Proofs.YtiaegloipnhhdaaGreat
