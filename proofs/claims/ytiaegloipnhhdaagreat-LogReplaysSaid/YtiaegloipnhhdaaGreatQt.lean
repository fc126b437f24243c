/- The program's Record, the document's. Conditions: the instance's numbers are numbers; a cell's attributes are eight numbers. -/
import Derived.Test.YtiaegloipnhhdaaGreatQi
import Derived.Test.YtiaegloipnhhdaaGreatQg
import Derived.Test.YtiaegloipnhhdaaGreatQh
import Derived.Test.YtiaegloipnhhdaaGreatQa
import Derived.Test.YtiaegloipnhhdaaGreatQj
import Derived.Test.YtiaegloipnhhdaaGreatQn
import Derived.Test.YtiaegloipnhhdaaGreatQm
import Derived.Test.YtiaegloipnhhdaaGreatQs
import Derived.Test.YtiaegloipnhhdaaGreatQb
namespace Go.Proofs.YtiaegloipnhhdaaGreat
set_option maxRecDepth 100000
open Go.RowKit
set_option maxHeartbeats 8000000 in
theorem precord_any (i : Int × Int) (c : Cl) (hi : Ok i) (h8 : c.a.length = 8) (w : World) : Calls Tryz.prog 8 #[.agg #[.int .i64 i.1, .int .i64 i.2], .agg (clC c)] w (MadeB w (encRec i c)) := by
  have HQ0 := hide (show Row ((w.alloc (.cells #[.int .i64 i.1, .int .i64 i.2] 30)).alloc (.cells (clC c) 38)) w.heap.size 30 #[.int .i64 i.1, .int .i64 i.2] ∧ CeAt ((w.alloc (.cells #[.int .i64 i.1, .int .i64 i.2] 30)).alloc (.cells (clC c) 38)) (w.alloc (.cells #[.int .i64 i.1, .int .i64 i.2] 30)).heap.size 38 c from ⟨(Row.new w _ _).alloc _, CeAt.new h8 _ _⟩)
  have HB := hide (kept_alloc (kept_alloc (kept_refl w) (.cells #[.int .i64 i.1, .int .i64 i.2] 30)) (.cells (clC c) 38))
  have hsz : (w.alloc (.cells #[.int .i64 i.1, .int .i64 i.2] 30)).heap.size = w.heap.size + 1 := by simp
  rw [hsz] at HQ0
  clear hsz
  go_enter Tryz.func8, Tryz.ntmps8
  go_upto_region 1 with (fail)
  generalize (w.alloc (.cells #[.int .i64 i.1, .int .i64 i.2] 30)).alloc (.cells (clC c) 38) = w1 at HQ0 HB ⊢
  have HBS := hide HB.out.size
  generalize hbi : w.heap.size = bi at HQ0 HBS ⊢
  have HQ := hide (fun (wz : World) (k : Below w1.heap.size w1 wz) => (⟨HQ0.out.1.below k HQ0.out.1.lt, HQ0.out.2.kept k⟩ : Row wz bi 30 #[.int .i64 i.1, .int .i64 i.2] ∧ CeAt wz (bi + 1) 38 c))
  refine wp_region_noPanic ?_
  refine wp_region_U 8 (fun wz => Below w1.heap.size w1 wz) (by kernel_rfl) ?_
  have HD := hide (show Below w1.heap.size w1 w1.drew from kept_drewN (kept_refl _) 1)
  generalize w1.drew = wd at HD ⊢
  refine anyU_take2 (i := 0) (v := .pointer (some ⟨bi, 0, none⟩)) (by simp only [List.getElem?_toArray, List.getElem?_cons_zero]; exact rfl) (by kernel_rfl) 12 (by kernel_rfl) (by kernel_rfl) (fun _ _ _ h => h) (by kernel_rfl) (by kernel_rfl) (by kernel_rfl) (by kernel_rfl) (Or.inl ⟨by rfl, fun w hSw => (by go_simp; try with_reducible rfl)⟩) (by with_reducible exact HD.out) ?_
  try simp only [Act.put, List.setIfInBounds_toArray, List.set_cons_zero, List.set_cons_succ]
  refine anyU_take2 (i := 1) (v := .int .i64 i.1) (by simp only [List.getElem?_toArray, List.getElem?_cons_succ, List.getElem?_cons_zero]; exact rfl) (by kernel_rfl) 12 (by kernel_rfl) (by kernel_rfl) (fun _ _ _ h => h) (by kernel_rfl) (by kernel_rfl) (by kernel_rfl) (by kernel_rfl) (Or.inl ⟨by rfl, fun w hSw => (by have x0 : w.cell? ⟨bi, 0, none⟩ = some (.int .i64 i.1) := (HQ.out _ hSw).1.cell 0; go_simp; try with_reducible rfl)⟩) (by with_reducible exact HD.out) ?_
  try simp only [Act.put, List.setIfInBounds_toArray, List.set_cons_zero, List.set_cons_succ]
  refine anyU_take2 (i := 3) (v := .pointer (some ⟨bi, 1, none⟩)) (by simp only [List.getElem?_toArray, List.getElem?_cons_succ, List.getElem?_cons_zero]; exact rfl) (by kernel_rfl) 12 (by kernel_rfl) (by kernel_rfl) (fun _ _ _ h => h) (by kernel_rfl) (by kernel_rfl) (by kernel_rfl) (by kernel_rfl) (Or.inl ⟨by rfl, fun w hSw => (by go_simp; try with_reducible rfl)⟩) (by with_reducible exact HD.out) ?_
  try simp only [Act.put, List.setIfInBounds_toArray, List.set_cons_zero, List.set_cons_succ]
  refine anyU_take2 (i := 4) (v := .int .i64 i.2) (by simp only [List.getElem?_toArray, List.getElem?_cons_succ, List.getElem?_cons_zero]; exact rfl) (by kernel_rfl) 12 (by kernel_rfl) (by kernel_rfl) (fun _ _ _ h => h) (by kernel_rfl) (by kernel_rfl) (by kernel_rfl) (by kernel_rfl) (Or.inl ⟨by rfl, fun w hSw => (by have x0 : w.cell? ⟨bi, 1, none⟩ = some (.int .i64 i.2) := (HQ.out _ hSw).1.cell 1; go_simp; try with_reducible rfl)⟩) (by with_reducible exact HD.out) ?_
  try simp only [Act.put, List.setIfInBounds_toArray, List.set_cons_zero, List.set_cons_succ]
  refine anyU_take2 (i := 6) (v := .agg (clC c)) (by simp only [List.getElem?_toArray, List.getElem?_cons_succ, List.getElem?_cons_zero]; exact rfl) (by kernel_rfl) 12 (by kernel_rfl) (by kernel_rfl) (fun _ _ _ h => h) (by kernel_rfl) (by kernel_rfl) (by kernel_rfl) (by kernel_rfl) (Or.inl ⟨by rfl, fun w hSw => exec_load_gp rfl rfl (HQ.out _ hSw).2.all ce_under rfl (by rw [Cl.len h8]; exact ce_info)⟩) (by with_reducible exact HD.out) ?_
  try simp only [Act.put, List.setIfInBounds_toArray, List.set_cons_zero, List.set_cons_succ]
  refine anyU_one (i := 2) (by kernel_rfl) (by simp only [List.getElem?_toArray, List.getElem?_cons_succ, List.getElem?_cons_zero]; exact rfl) (fun K hK => ?_)
  try go_simp
  refine (bnum (By.nil_ wd.heap.size wd) i.1 (by decide) hi.1.1 hi.1.2).mono ?_
  rintro e w2 ⟨y2, rfl, hy, hb⟩
  replace HD := hide (kept_trans HD.out hb)
  have Y2 := hide hy
  clear hy hb
  refine hK.out _ _ (fun _ _ => HD.out) ?_
  clear hK K
  try simp only [Act.put, List.setIfInBounds_toArray, List.set_cons_zero, List.set_cons_succ]
  refine anyU_one (i := 5) (by kernel_rfl) (by simp only [List.getElem?_toArray, List.getElem?_cons_succ, List.getElem?_cons_zero]; exact rfl) (fun K hK => ?_)
  try go_simp
  refine (bnum Y2.out i.2 (by rw [List.nil_append]; have := (num7_len i.1).2; omega) hi.2.1 hi.2.2).mono ?_
  rintro e w3 ⟨y3, rfl, hy, hb⟩
  replace HD := hide (kept_trans HD.out hb)
  have Y3 := hide hy
  have BZ := hide HD.out.size
  clear hy hb
  refine hK.out _ _ (fun _ _ => HD.out) ?_
  clear hK K
  try simp only [Act.put, List.setIfInBounds_toArray, List.set_cons_zero, List.set_cons_succ]
  refine anyU_one (i := 7) (by kernel_rfl) (by simp only [List.getElem?_toArray, List.getElem?_cons_succ, List.getElem?_cons_zero]; exact rfl) (fun K hK => ?_)
  try go_simp
  refine (pputcell_any Y3.out.sl (by rw [List.nil_append, List.length_append]; have := (num7_len i.1).2; have := (num7_len i.2).2; omega) c h8).mono ?_
  rintro e w4 ⟨y4, rfl, hy, hb⟩
  replace HD := hide (kept_trans HD.out hb)
  have Y4 := hide hy
  clear hy hb
  refine hK.out _ _ (fun _ _ => HD.out) ?_
  clear hK K
  try simp only [Act.put, List.setIfInBounds_toArray, List.set_cons_zero, List.set_cons_succ]
  refine anyU_one (i := 8) (by kernel_rfl) (by simp only [List.getElem?_toArray, List.getElem?_cons_succ, List.getElem?_cons_zero]; exact rfl) (fun K hK => ?_)
  try go_simp
  refine hK.out _ _ (fun e _ => absurd rfl e) ?_
  clear hK K
  try simp only [Act.put]
  refine anyU_done (by kernel_rfl) ?_
  refine NoPanic.normal ?_
  try simp only [Act.put]
  go_wp2
  go_ret
  refine ⟨_, rfl, ?_, kept_trans HB.out HD.out⟩
  have h := Y4.out.mono (Nat.le_trans HBS.out BZ.out)
  unfold encRec encB
  rw [List.nil_append] at h
  rw [hbi]
  exact h
set_option maxHeartbeats 8000000 in
theorem rrecord_any (i : Int × Int) (c : Cl) (hi : Ok i) (h8 : c.a.length = 8) (hr : rightCl c = true) (w : World) : Calls Tryz.prog 19 #[.agg #[.int .i64 i.1, .int .i64 i.2], .agg (clC c)] w (MadeB w (encRec i c)) := by
  have HQ0 := hide (show Row ((w.alloc (.cells #[.int .i64 i.1, .int .i64 i.2] 30)).alloc (.cells (clC c) 38)) w.heap.size 30 #[.int .i64 i.1, .int .i64 i.2] ∧ CeAt ((w.alloc (.cells #[.int .i64 i.1, .int .i64 i.2] 30)).alloc (.cells (clC c) 38)) (w.alloc (.cells #[.int .i64 i.1, .int .i64 i.2] 30)).heap.size 38 c from ⟨(Row.new w _ _).alloc _, CeAt.new h8 _ _⟩)
  have HB := hide (kept_alloc (kept_alloc (kept_refl w) (.cells #[.int .i64 i.1, .int .i64 i.2] 30)) (.cells (clC c) 38))
  have hsz : (w.alloc (.cells #[.int .i64 i.1, .int .i64 i.2] 30)).heap.size = w.heap.size + 1 := by simp
  rw [hsz] at HQ0
  clear hsz
  go_enter Tryz.func19, Tryz.ntmps19
  go_upto_region 1 with (fail)
  generalize (w.alloc (.cells #[.int .i64 i.1, .int .i64 i.2] 30)).alloc (.cells (clC c) 38) = w1 at HQ0 HB ⊢
  have HBS := hide HB.out.size
  generalize hbi : w.heap.size = bi at HQ0 HBS ⊢
  have HQ := hide (fun (wz : World) (k : Below w1.heap.size w1 wz) => (⟨HQ0.out.1.below k HQ0.out.1.lt, HQ0.out.2.kept k⟩ : Row wz bi 30 #[.int .i64 i.1, .int .i64 i.2] ∧ CeAt wz (bi + 1) 38 c))
  refine wp_region_noPanic ?_
  refine wp_region_U 4 (fun wz => Below w1.heap.size w1 wz) (by kernel_rfl) ?_
  have HD := hide (show Below w1.heap.size w1 w1.drew from kept_drewN (kept_refl _) 1)
  generalize w1.drew = wd at HD ⊢
  refine anyU_take2 (i := 0) (v := .agg #[.int .i64 i.1, .int .i64 i.2]) (by simp only [List.getElem?_toArray, List.getElem?_cons_zero]; exact rfl) (by kernel_rfl) 12 (by kernel_rfl) (by kernel_rfl) (fun _ _ _ h => h) (by kernel_rfl) (by kernel_rfl) (by kernel_rfl) (by kernel_rfl) (Or.inl ⟨by rfl, fun w hSw => (by have x0 : w.cell? ⟨bi, 0, none⟩ = some (.int .i64 i.1) := (HQ.out _ hSw).1.cell 0; have x1 : w.cell? ⟨bi, 1, none⟩ = some (.int .i64 i.2) := (HQ.out _ hSw).1.cell 1; go_simp; try with_reducible rfl)⟩) (by with_reducible exact HD.out) ?_
  try simp only [Act.put, List.setIfInBounds_toArray, List.set_cons_zero, List.set_cons_succ]
  refine anyU_take2 (i := 2) (v := .agg (clC c)) (by simp only [List.getElem?_toArray, List.getElem?_cons_succ, List.getElem?_cons_zero]; exact rfl) (by kernel_rfl) 12 (by kernel_rfl) (by kernel_rfl) (fun _ _ _ h => h) (by kernel_rfl) (by kernel_rfl) (by kernel_rfl) (by kernel_rfl) (Or.inl ⟨by rfl, fun w hSw => exec_load_gp rfl rfl (HQ.out _ hSw).2.all ce_under rfl (by rw [Cl.len h8]; exact ce_info)⟩) (by with_reducible exact HD.out) ?_
  try simp only [Act.put, List.setIfInBounds_toArray, List.set_cons_zero, List.set_cons_succ]
  refine anyU_one (i := 1) (by kernel_rfl) (by simp only [List.getElem?_toArray, List.getElem?_cons_succ, List.getElem?_cons_zero]; exact rfl) (fun K hK => ?_)
  try go_simp
  refine (rinst_by (By.nil_ wd.heap.size wd) (by decide) i hi.1 hi.2 (Nat.le_refl _)).mono ?_
  rintro e w2 ⟨y2, rfl, hy, hb⟩
  replace HD := hide (kept_trans HD.out hb)
  have Y2 := hide hy
  have BZ := hide HD.out.size
  clear hy hb
  refine hK.out _ _ (fun _ _ => HD.out) ?_
  clear hK K
  try simp only [Act.put, List.setIfInBounds_toArray, List.set_cons_zero, List.set_cons_succ]
  refine anyU_one (i := 3) (by kernel_rfl) (by simp only [List.getElem?_toArray, List.getElem?_cons_succ, List.getElem?_cons_zero]; exact rfl) (fun K hK => ?_)
  try go_simp
  refine (rputcell_any Y2.out.sl (by rw [List.nil_append]; unfold encB; rw [List.length_append]; have := (num7_len i.1).2; have := (num7_len i.2).2; omega) c h8 hr).mono ?_
  rintro e w3 ⟨y3, rfl, hy, hb⟩
  replace HD := hide (kept_trans HD.out hb)
  have Y3 := hide hy
  clear hy hb
  refine hK.out _ _ (fun _ _ => HD.out) ?_
  clear hK K
  try simp only [Act.put, List.setIfInBounds_toArray, List.set_cons_zero, List.set_cons_succ]
  refine anyU_one (i := 4) (by kernel_rfl) (by simp only [List.getElem?_toArray, List.getElem?_cons_succ, List.getElem?_cons_zero]; exact rfl) (fun K hK => ?_)
  try go_simp
  refine hK.out _ _ (fun e _ => absurd rfl e) ?_
  clear hK K
  try simp only [Act.put]
  refine anyU_done (by kernel_rfl) ?_
  refine NoPanic.normal ?_
  try simp only [Act.put]
  go_wp2
  go_ret
  refine ⟨_, rfl, ?_, kept_trans HB.out HD.out⟩
  have h := Y3.out.mono (Nat.le_trans HBS.out BZ.out)
  unfold encRec encCl
  rw [if_pos hr]
  rw [List.nil_append] at h
  rw [hbi]
  exact h
end Go.Proofs.YtiaegloipnhhdaaGreat
/- The program's Replay, the document's. Conditions: the bytes lie, their number has room. -/
namespace Go.Proofs.YtiaegloipnhhdaaGreat
set_option maxRecDepth 100000
open Go.RowKit
/-- What Replay answers. -/
def Recs (w : World) (zs : List Int) (y : Ending) (w' : World) : Prop := ∃ x1 x2 x e, y = .returned (.tuple #[.agg #[.int .i64 x1, .int .i64 x2], .agg (clC x), .int .i64 e]) ∧ decRec zs = ((x1, x2), x, e) ∧ x.a.length = 8 ∧ Below w.heap.size w w'
theorem rec_got {zs : List Int} {m : (Int × Int) × Cl} {i' : Nat} {e' : Int} (h : Got (dRec0 zs 0) 0 m i' e') :
    decRec zs = if rEndE zs i' e' = 0 then (if rightI m.1.1 m.1.2 then (m.1, m.2, 0) else ((0, 0), zeroCl, 4)) else ((0, 0), zeroCl, rEndE zs i' e') := by
  unfold decRec
  cases hd : dRec0 zs 0 with
  | error x =>
    obtain ⟨rfl, h2⟩ := h.error hd
    have : rEndE zs i' e' = e' := by unfold rEndE; rw [if_neg h2]
    rw [this, if_neg h2]
  | ok v =>
    obtain ⟨a, j⟩ := v
    obtain ⟨rfl, rfl, rfl⟩ := h.fine hd
    unfold rEndE
    rw [if_pos rfl]
    dsimp only
    by_cases hj : i' < zs.length
    · rw [if_pos hj, if_pos hj, if_neg (by decide)]
    · rw [if_neg hj, if_neg hj, if_pos rfl]
theorem fill_i0 (n : Int) (w : World) : (Instr.build 30 #[(0, .int .i64 n)]).run Tryz.prog w = .ok (.agg #[.int .i64 n, .int .i64 0]) w := by kernel_rfl
theorem fill_iz (w : World) : (Instr.build 30 #[]).run Tryz.prog w = .ok (.agg #[.int .i64 0, .int .i64 0]) w := by kernel_rfl
theorem results_rec {fn : Func} {tmps : Array Value} {w : World} {a b c h q : Nat} {v0 v1 z : Value} {x : Cl} (hf : fn.results = #[.cell a 30, .cell b 38, .tmp c]) (ha : tmps[a]? = some (.pointer (some ⟨h, 0, none⟩))) (R : Row w h 30 #[v0, v1])
    (hb : tmps[b]? = some (.pointer (some ⟨q, 0, none⟩))) (L : CeAt w q 38 x) (hc : tmps[c]? = some z) : (results fn tmps).run Tryz.prog w = .ok (.tuple #[.agg #[v0, v1], .agg (clC x), z]) w := by
  have h1 := run_loadVar_row w h 30 30 #[v0, v1] _ _ R Tryz.underlying30 rfl in_info
  have h2 := run_loadVar_row w q 38 38 (clC x) _ _ L.r ce_under rfl (by rw [clC_size L.l]; exact ce_info)
  simp only [results, hf]
  simp [asAddr, ha, hb, hc, h1, h2]
section
variable {op : Oper} {ops : Array Oper} {rest : List Oper} {d : Option Tmp} {ty : TypeId} {ps : String} {af : Array Edge} {a : Act} {w : World} {K : Act → World → Prop} {Q : Exit → Act → World → Prop} {b : Nat} {x u : Operand} {t : TypeId} {v0 v1 : Value} {p q : Int}
theorem wp_store_in (ho : op.op = .store 30 x u) (hx : a.eval x = .pointer (some ⟨b, 0, none⟩)) (hy : a.eval u = .agg #[.int .i64 p, .int .i64 q]) (R : Row w b t #[v0, v1]) (h : ∀ w', Row w' b t #[.int .i64 p, .int .i64 q] → w.grownBy w' (some b) → K (a.put op.dst undef) w') : op.wp Tryz.prog a w K Q := by
  have hth : w.there b 0 2 := fun j hj => ⟨by rw [R.cell, Array.getElem?_eq_getElem (by simpa using hj)]; rfl, R.free _⟩
  refine wp_store_mid 30 x u ho b 0 #[.int .i64 p, .int .i64 q] hx hy hth in_info (all_oneCell_toArray (by intro v hv; simp at hv; rcases hv with rfl | rfl <;> rfl)) ?_
  refine h _ ?_ (grown_setCells b [.int .i64 p, .int .i64 q] 0 w)
  exact Row.puts [.int .i64 p, .int .i64 q] 0 R
theorem wpList_store_in (hx : a.eval x = .pointer (some ⟨b, 0, none⟩)) (hy : a.eval u = .agg #[.int .i64 p, .int .i64 q]) (R : Row w b t #[v0, v1]) (h : ∀ w', Row w' b t #[.int .i64 p, .int .i64 q] → w.grownBy w' (some b) → wpList Tryz.prog ops Q rest (a.put d undef) w') :
    wpList Tryz.prog ops Q ({ dst := d, op := .store 30 x u, type := ty, pos := ps, after := af, guard := none } :: rest) a w :=
  wpList_plain rfl fun _ hK => wp_store_in rfl hx hy R fun w' h1 h2 => hK _ _ (h w' h1 h2)
end
/-- While a record is read: the reader, the blocks of the answer. -/
structure Rk (t : TypeId) (W w : World) (B g : Nat) (zs : List Int) (i : Nat) (e : Int) (b1 b2 : Nat) : Prop where
  k : Rdr t w B g zs i e
  old : Below W.heap.size W w
  z1 : Row w b1 30 #[.int .i64 0, .int .i64 0]
  z2 : CeAt w b2 38 zeroCl
  n1 : W.heap.size ≤ b1 ∧ b1 < g
  n2 : W.heap.size ≤ b2 ∧ b2 < g
structure Rl6 (t : TypeId) (W w : World) (B g : Nat) (zs : List Int) (i : Nat) (e : Int) (b1 b2 b6 : Nat) (x1 x2 : Int) : Prop where
  a : Rk t W w B g zs i e b1 b2
  r6 : Row w b6 30 #[.int .i64 x1, .int .i64 x2]
  g6 : g < b6
structure Rl7 (t : TypeId) (W w : World) (B g : Nat) (zs : List Int) (i : Nat) (e : Int) (b1 b2 b6 b7 : Nat) (x1 x2 : Int) (x : Cl) : Prop where
  a : Rl6 t W w B g zs i e b1 b2 b6 x1 x2
  c7 : CeAt w b7 38 x
  g7 : g < b7
/-- The answer's blocks, what was read. -/
structure Rf (W w : World) (b1 b2 b6 b7 : Nat) (y1 y2 : Int) (z : Cl) (x1 x2 : Int) (x : Cl) : Prop where
  old : Below W.heap.size W w
  z1 : Row w b1 30 #[.int .i64 y1, .int .i64 y2]
  z2 : CeAt w b2 38 z
  r6 : Row w b6 30 #[.int .i64 x1, .int .i64 x2]
  c7 : CeAt w b7 38 x
  l1 : W.heap.size ≤ b1
  l2 : W.heap.size ≤ b2
  n12 : b1 ≠ b2
  n16 : b1 ≠ b6
  n17 : b1 ≠ b7
  n26 : b2 ≠ b6
  n27 : b2 ≠ b7
section
variable {t : TypeId} {W w w' : World} {B g i i' b1 b2 b6 b7 : Nat} {zs : List Int} {e e' y1 y2 x1 x2 p q : Int} {x z z' : Cl}
theorem Rk.step (s : Rk t W w B g zs i e b1 b2) (hr : Rdr t w' B g zs i' e') (hg : w.grownBy w' (some g)) : Rk t W w' B g zs i' e' b1 b2 :=
  have h1 := s.n1
  have h2 := s.n2
  ⟨hr, below_own s.old hg (by omega), s.z1.grown hg (by simp; omega), s.z2.other hg (by omega), s.n1, s.n2⟩
theorem Rk.below (s : Rk t W w B g zs i e b1 b2) (hb : Below w.heap.size w w') : Rk t W w' B g zs i e b1 b2 := ⟨s.k.below hb, kept_trans s.old hb, s.z1.below hb s.z1.lt, s.z2.kept hb, s.n1, s.n2⟩
theorem Rk.inst (s : Rk t W w B g zs i e b1 b2) (x1 x2 : Int) : Rl6 t W (w.alloc (.cells #[.int .i64 x1, .int .i64 x2] 30)) B g zs i e b1 b2 w.heap.size x1 x2 := ⟨s.below (kept_alloc (kept_refl w) _), Row.new w _ _, s.k.lt⟩
theorem Rl6.step (s : Rl6 t W w B g zs i e b1 b2 b6 x1 x2) (hr : Rdr t w' B g zs i' e') (hg : w.grownBy w' (some g)) : Rl6 t W w' B g zs i' e' b1 b2 b6 x1 x2 :=
  have h1 := s.g6
  ⟨s.a.step hr hg, s.r6.grown hg (by simp; omega), s.g6⟩
theorem Rl6.put (s : Rl6 t W w B g zs i e b1 b2 b6 x1 x2) (hn : Row w' b6 30 (#[.int .i64 x1, .int .i64 x2].setIfInBounds 1 (.int .i64 p))) (hg : w.grownBy w' (some b6)) : Rl6 t W w' B g zs i e b1 b2 b6 x1 p :=
  have h0 := s.g6
  have h1 := s.a.n1
  have h2 := s.a.n2
  ⟨⟨s.a.k.keep (fun k hk => hg.block k (by have := s.a.k.lt; have := s.a.k.low; omega) (by have := s.a.k.low; simp; omega)) (hg.block g s.a.k.lt (by simp; omega)), below_own s.a.old hg (by omega), s.a.z1.grown hg (by simp; omega), s.a.z2.other hg (by omega), s.a.n1, s.a.n2⟩, hn, s.g6⟩
theorem Rl6.cell (s : Rl6 t W w B g zs i e b1 b2 b6 x1 x2) (h8 : x.a.length = 8) : Rl7 t W (w.alloc (.cells (clC x) 38)) B g zs i e b1 b2 b6 w.heap.size x1 x2 x :=
  ⟨⟨s.a.below (kept_alloc (kept_refl w) _), s.r6.alloc _, s.g6⟩, CeAt.new h8 w _, s.a.k.lt⟩
theorem Rl7.step (s : Rl7 t W w B g zs i e b1 b2 b6 b7 x1 x2 x) (hr : Rdr t w' B g zs i' e') (hg : w.grownBy w' (some g)) : Rl7 t W w' B g zs i' e' b1 b2 b6 b7 x1 x2 x :=
  have h1 := s.g7
  ⟨s.a.step hr hg, s.c7.other hg (by omega), s.g7⟩
theorem Rf.below (s : Rf W w b1 b2 b6 b7 y1 y2 z x1 x2 x) (hb : Below w.heap.size w w') : Rf W w' b1 b2 b6 b7 y1 y2 z x1 x2 x := ⟨kept_trans s.old hb, s.z1.below hb s.z1.lt, s.z2.kept hb, s.r6.below hb s.r6.lt, s.c7.kept hb, s.l1, s.l2, s.n12, s.n16, s.n17, s.n26, s.n27⟩
theorem Rf.put1 (s : Rf W w b1 b2 b6 b7 y1 y2 z x1 x2 x) (hn : Row w' b1 30 #[.int .i64 p, .int .i64 q]) (hg : w.grownBy w' (some b1)) : Rf W w' b1 b2 b6 b7 p q z x1 x2 x :=
  ⟨below_own s.old hg s.l1, hn, s.z2.other hg (Ne.symm s.n12), s.r6.grown hg (by have := s.n16; simp; omega), s.c7.other hg (Ne.symm s.n17), s.l1, s.l2, s.n12, s.n16, s.n17, s.n26, s.n27⟩
theorem Rf.put2 (s : Rf W w b1 b2 b6 b7 y1 y2 z x1 x2 x) (hn : CeAt w' b2 38 z') (hg : w.grownBy w' (some b2)) : Rf W w' b1 b2 b6 b7 y1 y2 z' x1 x2 x :=
  ⟨below_own s.old hg s.l2, s.z1.grown hg (by have := s.n12; simp; omega), hn, s.r6.grown hg (by have := s.n26; simp; omega), s.c7.other hg (Ne.symm s.n27), s.l1, s.l2, s.n12, s.n16, s.n17, s.n26, s.n27⟩
end
set_option maxHeartbeats 16000000 in
theorem preplay_any (A : Option Addr) (n c : Nat) (zs : List Int) (w : World) (hn : zs.length = n) (hz : Lies w A zs) (ho : Octets zs) (hc : A = none → c = 0) (ln : n ≤ 140737488355328) :
    Calls Tryz.prog 9 #[.slice A n c] w (Recs w zs) := by
  have hsz : (w.alloc (.cells #[.int .i64 0, .int .i64 0] 30)).heap.size = w.heap.size + 1 := by simp
  have HZ1 := hide ((Row.new w 30 #[.int .i64 0, .int .i64 0]).alloc (.cells (clC zeroCl) 38))
  have hz2 := CeAt.new (x := zeroCl) rfl (w.alloc (.cells #[.int .i64 0, .int .i64 0] 30)) 38
  rw [hsz] at hz2
  have HZ2 := hide hz2
  have HB := hide (kept_alloc (kept_alloc (kept_refl w) (.cells #[.int .i64 0, .int .i64 0] 30)) (.cells (clC zeroCl) 38))
  have HS := hide (show ((w.alloc (.cells #[.int .i64 0, .int .i64 0] 30)).alloc (.cells (clC zeroCl) 38)).heap.size = w.heap.size + 2 by simp)
  have HC := hide (pread_any A n c zs ((w.alloc (.cells #[.int .i64 0, .int .i64 0] 30)).alloc (.cells (clC zeroCl) 38)) hn ((hz.alloc _).alloc _) ho hc ln)
  clear hz hn ho hc ln hz2 hsz
  go_enter Tryz.func9, Tryz.ntmps9
  go_upto_region 1 with (fail)
  rw [zero_cl]
  generalize (w.alloc (.cells #[.int .i64 0, .int .i64 0] 30)).alloc (.cells (clC zeroCl) 38) = w0 at HZ1 HZ2 HB HS HC ⊢
  go_upto_region 2 with (go_at_call 27; (with_reducible refine HC.out.mono ?_); rintro y w1 ⟨g, rfl, hg, hr, hb⟩; have RK := hide (show Rk 101 w w1 g g zs 0 0 w.heap.size (w.heap.size + 1) from ⟨hr, kept_trans HB.out hb, HZ1.out.below hb HZ1.out.lt, HZ2.out.kept hb, by have := HS.out; omega, by have := HS.out; omega⟩); clear hr hg hb HC)
  clear HZ1 HZ2 HB HS
  have HN := hide (pnum_g RK.out.k)
  go_upto_region 3 with (first
    | (go_at_call 28; (with_reducible refine HN.out.mono ?_); rintro y w2 ⟨x1, j1, e1, rfl, hr, hg, hd, hp⟩; replace RK := hide (RK.out.step hr hg); have G1 := hide hd; clear hr hg hd hp HN)
    | ((with_reducible refine wpList_build_one (i := 0) (u := .int .i64 x1) ?_ ?_ (fill_i0 x1 _) ?_); rfl; rfl))
  try simp only [Act.put]
  replace RK := hide (RK.out.inst x1 0)
  generalize w2.alloc (.cells #[.int .i64 x1, .int .i64 0] 30) = w3 at RK ⊢
  generalize w2.heap.size = b6 at RK ⊢
  have HN := hide (pnum_g RK.out.a.k)
  go_upto_region 4 with (first
    | (go_at_call 28; (with_reducible refine HN.out.mono ?_); rintro y w4 ⟨x2, j2, e2, rfl, hr, hg, hd, hp⟩; replace RK := hide (RK.out.step hr hg); have G2 := hide hd; clear hr hg hd hp HN)
    | ((with_reducible refine wpList_store_ri (j := 1) (n := x2) ?_ ?_ ?_ RK.out.r6 ?_); exact (by decide : 1 < 2); rfl; rfl; intro w5 hn hg; replace RK := hide (RK.out.put hn hg); clear hn hg))
  try simp only [Act.put]
  have HN := hide (pgetcell_g RK.out.a.k)
  go_upto_region 5 with (first
    | (go_at_call 29; (with_reducible refine HN.out.mono ?_); rintro y w6 ⟨x, j3, e3, rfl, hr, hg, hd, hp⟩; replace RK := hide (RK.out.step hr hg); have G3 := hide hd; have h8 := hide hp.1; clear hr hg hd hp HN)
    | ((with_reducible refine wpList_store_new (vs := clC x) ?_ ?_ (cl_all _) ?_ ?_ ?_); (rw [clC_size h8.out]; exact ce_info); (rw [clC_size h8.out]; rfl); (first | rfl | (simp; done)); rfl))
  try simp only [Act.put]
  replace RK := hide (RK.out.cell h8.out)
  generalize w6.alloc (.cells (clC x) 38) = w7 at RK ⊢
  generalize w6.heap.size = b7 at RK ⊢
  have HR0 := hide (rec_got (show Got (dRec0 zs 0) 0 ((x1, x2), x) j3 e3 from (G1.out.bnd (G2.out.bnd (Got.ok _ _ _))).bnd (G3.out.bnd (Got.ok _ _ _))))
  clear G1 G2 G3
  have HN := hide (pend_any RK.out.a.a.k)
  go_upto_region 6 with (first
    | (go_at_call 30; (with_reducible refine HN.out.mono ?_); rintro y w8 ⟨rfl, hr, hg⟩; replace RK := hide (RK.out.step hr hg); clear hr hg HN))
  generalize rEndE zs j3 e3 = why at RK HR0 ⊢
  have RF := hide (show Rf w w8 w.heap.size (w.heap.size + 1) b6 b7 0 0 zeroCl x1 x2 x from ⟨RK.out.a.a.old, RK.out.a.a.z1, RK.out.a.a.z2, RK.out.a.r6, RK.out.c7, Nat.le_refl _, by omega, by omega, by have h1 := RK.out.a.a.n1; have h3 := RK.out.a.g6; omega, by have h1 := RK.out.a.a.n1; have h4 := RK.out.g7; omega, by have h2 := RK.out.a.a.n2; have h3 := RK.out.a.g6; omega, by have h2 := RK.out.a.a.n2; have h4 := RK.out.g7; omega⟩)
  clear RK
  have r0 := RF.out.r6.cell 0
  have r1 := RF.out.r6.cell 1
  have HRI := hide (fun w => i_right_any x1 x2 w)

  by_cases hw : why = 0
  · subst hw
    rw [if_pos rfl] at HR0
    cases hri : rightI x1 x2
    · rw [hri] at HR0 HRI
      have HX := hide (show decRec zs = ((0, 0), zeroCl, 4) from HR0.out)
      clear HR0 hri
      go_wp2_with (first
        | ((with_reducible refine wpList_build_no ?_ (fill_cz _) ?_); rfl)
        | ((with_reducible refine wpList_build_no ?_ (fill_iz _) ?_); rfl)
        | ((with_reducible refine wpList_store_in (p := 0) (q := 0) ?_ ?_ RF.out.z1 ?_); rfl; rfl; intro wy hn hg; replace RF := hide (RF.out.put1 hn hg); clear hn hg)
        | ((with_reducible refine wpList_store_xw (y := zeroCl) rfl ?_ ?_ RF.out.z2 ?_); rfl; rfl; intro wz hn hg; replace RF := hide (RF.out.put2 hn hg); clear hn hg)
        | (go_at_call 21; (with_reducible refine (HRI.out _).mono ?_); rintro y wr9 ⟨rfl, hb⟩; replace RF := hide (RF.out.below hb); clear hb r0 r1))
      exact bodyPost_ret (results_rec Tryz.results9 rfl RF.out.z1 rfl RF.out.z2 rfl) rfl ⟨0, 0, zeroCl, _, rfl, HX.out, rfl, RF.out.old⟩
    · rw [hri] at HR0 HRI
      have HX := hide (show decRec zs = ((x1, x2), x, 0) from HR0.out)
      clear HR0 hri
      go_upto_region 10 with (first
      | fail
      | (go_at_call 21; (with_reducible refine (HRI.out _).mono ?_); rintro y wr9 ⟨rfl, hb⟩; replace RF := hide (RF.out.below hb); clear hb r0 r1))
      clear HRI
      try clear r0 r1
      refine wp_region_noPanic ?_
      refine wp_region_U 4 (fun wz => Row wz b6 30 #[.int .i64 x1, .int .i64 x2] ∧ CeAt wz b7 38 x) (by kernel_rfl) ?_
      have HDB := hide (show Below wr9.heap.size wr9 wr9.drew from kept_drewN (kept_refl _) 1)
      replace RF := hide (RF.out.below HDB.out)
      clear HDB
      generalize wr9.drew = wd at RF ⊢
      have HD := hide (show Row wd b6 30 #[.int .i64 x1, .int .i64 x2] ∧ CeAt wd b7 38 x from ⟨RF.out.r6, RF.out.c7⟩)
      refine anyU_take2 (i := 0) (v := .agg #[.int .i64 x1, .int .i64 x2]) (by simp only [List.getElem?_toArray, List.getElem?_cons_zero]; exact rfl) (by kernel_rfl) 12 (by kernel_rfl) (by kernel_rfl) (fun _ _ _ h => h) (by kernel_rfl) (by kernel_rfl) (by kernel_rfl) (by kernel_rfl) (Or.inl ⟨by rfl, fun w hSw => (by have x0 : w.cell? ⟨b6, 0, none⟩ = some (.int .i64 x1) := hSw.1.cell 0; have x1' : w.cell? ⟨b6, 1, none⟩ = some (.int .i64 x2) := hSw.1.cell 1; go_simp; try with_reducible rfl)⟩) (by with_reducible exact HD.out) ?_
      try simp only [Act.put, List.setIfInBounds_toArray, List.set_cons_zero, List.set_cons_succ]
      refine anyU_take2 (i := 1) (v := .agg (clC x)) (by simp only [List.getElem?_toArray, List.getElem?_cons_succ, List.getElem?_cons_zero]; exact rfl) (by kernel_rfl) 12 (by kernel_rfl) (by kernel_rfl) (fun _ _ _ h => h) (by kernel_rfl) (by kernel_rfl) (by kernel_rfl) (by kernel_rfl) (Or.inl ⟨by rfl, fun w hSw => exec_load_gp rfl rfl hSw.2.all ce_under rfl (by rw [Cl.len h8.out]; exact ce_info)⟩) (by with_reducible exact HD.out) ?_
      try simp only [Act.put, List.setIfInBounds_toArray, List.set_cons_zero, List.set_cons_succ]
      refine anyU_one (i := 2) (by kernel_rfl) (by simp only [List.getElem?_toArray, List.getElem?_cons_succ, List.getElem?_cons_zero]; exact rfl) (fun K hK => ?_)
      rw [if_pos (by rfl)]
      refine wp_store_in rfl rfl rfl RF.out.z1 ?_
      intro wi1 hn hg
      replace RF := hide (RF.out.put1 hn hg)
      replace HD := hide (show Row wi1 b6 30 #[.int .i64 x1, .int .i64 x2] ∧ CeAt wi1 b7 38 x from ⟨RF.out.r6, RF.out.c7⟩)
      clear hn hg
      refine hK.out _ _ (fun _ _ => HD.out) ?_
      clear hK K
      try simp only [Act.put]
      refine anyU_one (i := 3) (by kernel_rfl) (by simp only [List.getElem?_toArray, List.getElem?_cons_succ, List.getElem?_cons_zero]; exact rfl) (fun K hK => ?_)
      rw [if_pos (by rfl)]
      refine wp_store_xw rfl h8.out rfl rfl RF.out.z2 ?_
      intro wi2 hn hg
      replace RF := hide (RF.out.put2 hn hg)
      replace HD := hide (show Row wi2 b6 30 #[.int .i64 x1, .int .i64 x2] ∧ CeAt wi2 b7 38 x from ⟨RF.out.r6, RF.out.c7⟩)
      clear hn hg
      refine hK.out _ _ (fun _ _ => HD.out) ?_
      clear hK K
      try simp only [Act.put]
      refine anyU_one (i := 4) (by kernel_rfl) (by simp only [List.getElem?_toArray, List.getElem?_cons_succ, List.getElem?_cons_zero]; exact rfl) (fun K hK => ?_)
      try go_simp
      refine hK.out _ _ (fun e _ => absurd rfl e) ?_
      clear hK K
      try simp only [Act.put]
      refine anyU_done (by kernel_rfl) ?_
      refine NoPanic.normal ?_
      try simp only [Act.put]
      go_wp2
      exact bodyPost_ret (results_rec Tryz.results9 rfl RF.out.z1 rfl RF.out.z2 rfl) rfl ⟨x1, x2, x, _, rfl, HX.out, h8.out, RF.out.old⟩
  · rw [if_neg hw] at HR0
    have HX := hide (show decRec zs = ((0, 0), zeroCl, why) from HR0.out)
    have hwb : (why == (0 : Int)) = false := by simpa using hw
    clear HR0 HRI
    go_wp2_with (first
      | ((with_reducible refine wpList_build_no ?_ (fill_cz _) ?_); rfl)
      | ((with_reducible refine wpList_build_no ?_ (fill_iz _) ?_); rfl)
      | ((with_reducible refine wpList_store_in (p := 0) (q := 0) ?_ ?_ RF.out.z1 ?_); rfl; rfl; intro wy hn hg; replace RF := hide (RF.out.put1 hn hg); clear hn hg)
      | ((with_reducible refine wpList_store_xw (y := zeroCl) rfl ?_ ?_ RF.out.z2 ?_); rfl; rfl; intro wz hn hg; replace RF := hide (RF.out.put2 hn hg); clear hn hg))
    exact bodyPost_ret (results_rec Tryz.results9 rfl RF.out.z1 rfl RF.out.z2 rfl) rfl ⟨0, 0, zeroCl, _, rfl, HX.out, rfl, RF.out.old⟩
set_option maxHeartbeats 16000000 in
theorem rreplay_any (A : Option Addr) (n c : Nat) (zs : List Int) (w : World) (hn : zs.length = n) (hz : Lies w A zs) (ho : Octets zs) (hc : n ≤ c) (ln : n ≤ 140737488355328) :
    Calls Tryz.prog 16 #[.slice A n c] w (Recs w zs) := by
  have hsz : (w.alloc (.cells #[.int .i64 0, .int .i64 0] 30)).heap.size = w.heap.size + 1 := by simp
  have HZ1 := hide ((Row.new w 30 #[.int .i64 0, .int .i64 0]).alloc (.cells (clC zeroCl) 38))
  have hz2 := CeAt.new (x := zeroCl) rfl (w.alloc (.cells #[.int .i64 0, .int .i64 0] 30)) 38
  rw [hsz] at hz2
  have HZ2 := hide hz2
  have HB := hide (kept_alloc (kept_alloc (kept_refl w) (.cells #[.int .i64 0, .int .i64 0] 30)) (.cells (clC zeroCl) 38))
  have HS := hide (show ((w.alloc (.cells #[.int .i64 0, .int .i64 0] 30)).alloc (.cells (clC zeroCl) 38)).heap.size = w.heap.size + 2 by simp)
  have HC := hide (rread_any A n c w.heap.size zs ((w.alloc (.cells #[.int .i64 0, .int .i64 0] 30)).alloc (.cells (clC zeroCl) 38)) hn (Deep.keep hz.deep (fun k hk => (kept_alloc (kept_alloc (kept_refl w) _) _ : Below w.heap.size w _).block k hk)) (by simp; omega) ho hc ln)
  clear hz hn ho hc ln hz2 hsz
  go_enter Tryz.func16, Tryz.ntmps16
  go_upto_region 1 with (fail)
  rw [zero_cl]
  generalize (w.alloc (.cells #[.int .i64 0, .int .i64 0] 30)).alloc (.cells (clC zeroCl) 38) = w0 at HZ1 HZ2 HB HS HC ⊢
  go_upto_region 2 with (go_at_call 37; (with_reducible refine HC.out.mono ?_); rintro y w1 ⟨g, rfl, hg, hr, hb⟩; have RK := hide (show Rk 120 w w1 w.heap.size g zs 0 0 w.heap.size (w.heap.size + 1) from ⟨hr, kept_trans HB.out hb, HZ1.out.below hb HZ1.out.lt, HZ2.out.kept hb, by have := HS.out; omega, by have := HS.out; omega⟩); clear hr hg hb HC)
  clear HZ1 HZ2 HB HS
  have HN := hide (rinst_g RK.out.k)
  go_upto_region 3 with (first
    | (go_at_call 38; (with_reducible refine HN.out.mono ?_); rintro y w2 ⟨⟨x1, x2⟩, j2, e2, rfl, hr, hg, hd, hp⟩; replace RK := hide (RK.out.step hr hg); have G1 := hide hd; clear hr hg hd hp HN))
  try simp only [Act.put]
  replace RK := hide (RK.out.inst x1 x2)
  generalize w2.alloc (.cells #[.int .i64 x1, .int .i64 x2] 30) = w3 at RK ⊢
  generalize w2.heap.size = b6 at RK ⊢
  have HN := hide (rgetcell_g RK.out.a.k)
  go_upto_region 4 with (first
    | (go_at_call 39; (with_reducible refine HN.out.mono ?_); rintro y w6 ⟨x, j3, e3, rfl, hr, hg, hd, hp⟩; replace RK := hide (RK.out.step hr hg); have G3 := hide hd; have h8 := hide hp.1; clear hr hg hd hp HN)
    | ((with_reducible refine wpList_store_new (vs := clC x) ?_ ?_ (cl_all _) ?_ ?_ ?_); (rw [clC_size h8.out]; exact ce_info); (rw [clC_size h8.out]; rfl); (first | rfl | (simp; done)); rfl))
  try simp only [Act.put]
  replace RK := hide (RK.out.cell h8.out)
  generalize w6.alloc (.cells (clC x) 38) = w7 at RK ⊢
  generalize w6.heap.size = b7 at RK ⊢
  have HR0 := hide (rec_got (show Got (dRec0 zs 0) 0 ((x1, x2), x) j3 e3 from G1.out.bnd (G3.out.bnd (Got.ok _ _ _))))
  clear G1 G3
  have HN := hide (rend_to RK.out.a.a.k)
  go_upto_region 5 with (first
    | (go_at_call 40; (with_reducible refine HN.out.mono ?_); rintro y w8 ⟨rfl, hr, hg⟩; replace RK := hide (RK.out.step hr hg); clear hr hg HN))
  generalize rEndE zs j3 e3 = why at RK HR0 ⊢
  have RF := hide (show Rf w w8 w.heap.size (w.heap.size + 1) b6 b7 0 0 zeroCl x1 x2 x from ⟨RK.out.a.a.old, RK.out.a.a.z1, RK.out.a.a.z2, RK.out.a.r6, RK.out.c7, Nat.le_refl _, by omega, by omega, by have h1 := RK.out.a.a.n1; have h3 := RK.out.a.g6; omega, by have h1 := RK.out.a.a.n1; have h4 := RK.out.g7; omega, by have h2 := RK.out.a.a.n2; have h3 := RK.out.a.g6; omega, by have h2 := RK.out.a.a.n2; have h4 := RK.out.g7; omega⟩)
  clear RK
  have r0 := RF.out.r6.cell 0
  have r1 := RF.out.r6.cell 1
  have HRI := hide (fun w => refrightinst_any x1 x2 w)

  by_cases hw : why = 0
  · subst hw
    rw [if_pos rfl] at HR0
    cases hri : rightI x1 x2
    · rw [hri] at HR0 HRI
      have HX := hide (show decRec zs = ((0, 0), zeroCl, 4) from HR0.out)
      clear HR0 hri
      go_wp2_with (first
        | ((with_reducible refine wpList_build_no ?_ (fill_cz _) ?_); rfl)
        | ((with_reducible refine wpList_build_no ?_ (fill_iz _) ?_); rfl)
        | ((with_reducible refine wpList_store_in (p := 0) (q := 0) ?_ ?_ RF.out.z1 ?_); rfl; rfl; intro wy hn hg; replace RF := hide (RF.out.put1 hn hg); clear hn hg)
        | ((with_reducible refine wpList_store_xw (y := zeroCl) rfl ?_ ?_ RF.out.z2 ?_); rfl; rfl; intro wz hn hg; replace RF := hide (RF.out.put2 hn hg); clear hn hg)
        | (go_at_call 41; (with_reducible refine (HRI.out _).mono ?_); rintro y wr9 ⟨rfl, hb⟩; replace RF := hide (RF.out.below hb); clear hb r0 r1))
      exact bodyPost_ret (results_rec Tryz.results16 rfl RF.out.z1 rfl RF.out.z2 rfl) rfl ⟨0, 0, zeroCl, _, rfl, HX.out, rfl, RF.out.old⟩
    · rw [hri] at HR0 HRI
      have HX := hide (show decRec zs = ((x1, x2), x, 0) from HR0.out)
      clear HR0 hri
      go_upto_region 9 with (first
      | fail
      | (go_at_call 41; (with_reducible refine (HRI.out _).mono ?_); rintro y wr9 ⟨rfl, hb⟩; replace RF := hide (RF.out.below hb); clear hb r0 r1))
      clear HRI
      try clear r0 r1
      refine wp_region_noPanic ?_
      refine wp_region_U 4 (fun wz => Row wz b6 30 #[.int .i64 x1, .int .i64 x2] ∧ CeAt wz b7 38 x) (by kernel_rfl) ?_
      have HDB := hide (show Below wr9.heap.size wr9 wr9.drew from kept_drewN (kept_refl _) 1)
      replace RF := hide (RF.out.below HDB.out)
      clear HDB
      generalize wr9.drew = wd at RF ⊢
      have HD := hide (show Row wd b6 30 #[.int .i64 x1, .int .i64 x2] ∧ CeAt wd b7 38 x from ⟨RF.out.r6, RF.out.c7⟩)
      refine anyU_take2 (i := 0) (v := .agg #[.int .i64 x1, .int .i64 x2]) (by simp only [List.getElem?_toArray, List.getElem?_cons_zero]; exact rfl) (by kernel_rfl) 12 (by kernel_rfl) (by kernel_rfl) (fun _ _ _ h => h) (by kernel_rfl) (by kernel_rfl) (by kernel_rfl) (by kernel_rfl) (Or.inl ⟨by rfl, fun w hSw => (by have x0 : w.cell? ⟨b6, 0, none⟩ = some (.int .i64 x1) := hSw.1.cell 0; have x1' : w.cell? ⟨b6, 1, none⟩ = some (.int .i64 x2) := hSw.1.cell 1; go_simp; try with_reducible rfl)⟩) (by with_reducible exact HD.out) ?_
      try simp only [Act.put, List.setIfInBounds_toArray, List.set_cons_zero, List.set_cons_succ]
      refine anyU_take2 (i := 1) (v := .agg (clC x)) (by simp only [List.getElem?_toArray, List.getElem?_cons_succ, List.getElem?_cons_zero]; exact rfl) (by kernel_rfl) 12 (by kernel_rfl) (by kernel_rfl) (fun _ _ _ h => h) (by kernel_rfl) (by kernel_rfl) (by kernel_rfl) (by kernel_rfl) (Or.inl ⟨by rfl, fun w hSw => exec_load_gp rfl rfl hSw.2.all ce_under rfl (by rw [Cl.len h8.out]; exact ce_info)⟩) (by with_reducible exact HD.out) ?_
      try simp only [Act.put, List.setIfInBounds_toArray, List.set_cons_zero, List.set_cons_succ]
      refine anyU_one (i := 2) (by kernel_rfl) (by simp only [List.getElem?_toArray, List.getElem?_cons_succ, List.getElem?_cons_zero]; exact rfl) (fun K hK => ?_)
      rw [if_pos (by rfl)]
      refine wp_store_in rfl rfl rfl RF.out.z1 ?_
      intro wi1 hn hg
      replace RF := hide (RF.out.put1 hn hg)
      replace HD := hide (show Row wi1 b6 30 #[.int .i64 x1, .int .i64 x2] ∧ CeAt wi1 b7 38 x from ⟨RF.out.r6, RF.out.c7⟩)
      clear hn hg
      refine hK.out _ _ (fun _ _ => HD.out) ?_
      clear hK K
      try simp only [Act.put]
      refine anyU_one (i := 3) (by kernel_rfl) (by simp only [List.getElem?_toArray, List.getElem?_cons_succ, List.getElem?_cons_zero]; exact rfl) (fun K hK => ?_)
      rw [if_pos (by rfl)]
      refine wp_store_xw rfl h8.out rfl rfl RF.out.z2 ?_
      intro wi2 hn hg
      replace RF := hide (RF.out.put2 hn hg)
      replace HD := hide (show Row wi2 b6 30 #[.int .i64 x1, .int .i64 x2] ∧ CeAt wi2 b7 38 x from ⟨RF.out.r6, RF.out.c7⟩)
      clear hn hg
      refine hK.out _ _ (fun _ _ => HD.out) ?_
      clear hK K
      try simp only [Act.put]
      refine anyU_one (i := 4) (by kernel_rfl) (by simp only [List.getElem?_toArray, List.getElem?_cons_succ, List.getElem?_cons_zero]; exact rfl) (fun K hK => ?_)
      try go_simp
      refine hK.out _ _ (fun e _ => absurd rfl e) ?_
      clear hK K
      try simp only [Act.put]
      refine anyU_done (by kernel_rfl) ?_
      refine NoPanic.normal ?_
      try simp only [Act.put]
      go_wp2
      exact bodyPost_ret (results_rec Tryz.results16 rfl RF.out.z1 rfl RF.out.z2 rfl) rfl ⟨x1, x2, x, _, rfl, HX.out, h8.out, RF.out.old⟩
  · rw [if_neg hw] at HR0
    have HX := hide (show decRec zs = ((0, 0), zeroCl, why) from HR0.out)
    have hwb : (why == (0 : Int)) = false := by simpa using hw
    clear HR0 HRI
    go_wp2_with (first
      | ((with_reducible refine wpList_build_no ?_ (fill_cz _) ?_); rfl)
      | ((with_reducible refine wpList_build_no ?_ (fill_iz _) ?_); rfl)
      | ((with_reducible refine wpList_store_in (p := 0) (q := 0) ?_ ?_ RF.out.z1 ?_); rfl; rfl; intro wy hn hg; replace RF := hide (RF.out.put1 hn hg); clear hn hg)
      | ((with_reducible refine wpList_store_xw (y := zeroCl) rfl ?_ ?_ RF.out.z2 ?_); rfl; rfl; intro wz hn hg; replace RF := hide (RF.out.put2 hn hg); clear hn hg))
    exact bodyPost_ret (results_rec Tryz.results16 rfl RF.out.z1 rfl RF.out.z2 rfl) rfl ⟨0, 0, zeroCl, _, rfl, HX.out, rfl, RF.out.old⟩
end Go.Proofs.YtiaegloipnhhdaaGreat
/- Two answers of a reading in blocks of their own; lists of bytes held against each other. Conditions: what is read lies in memory. -/
namespace Go.Proofs.YtiaegloipnhhdaaGreat
set_option maxRecDepth 100000
open Go.RowKit
/-- Two blocks, made one behind the other: an instance, a cell. -/
structure N2 (w w' : World) (a1 a2 : Int) (z : Cl) : Prop where
  r : Row w' w.heap.size 30 #[.int .i64 a1, .int .i64 a2]
  c : CeAt w' (w.heap.size + 1) 38 z
  low : Below w.heap.size w w'
theorem two_new (w : World) : N2 w ((w.alloc (.cells #[.int .i64 0, .int .i64 0] 30)).alloc (.cells #[.int .i64 0, .int .i64 0, .int .i64 0, .int .i64 0, .int .i64 0, .int .i64 0, .int .i64 0, .int .i64 0, .string ⟨#[]⟩, .string ⟨#[]⟩, .string ⟨#[]⟩, .string ⟨#[]⟩, .int .i64 0, .int .i64 0, .int .i64 0, .int .i64 0, .int .i64 0, .int .i64 0, .int .i64 0, .int .i64 0, .bool false] 38)) 0 0 zeroCl := by
  have h := CeAt.new (x := zeroCl) rfl (w.alloc (.cells #[.int .i64 0, .int .i64 0] 30)) 38
  rw [show (w.alloc (.cells #[.int .i64 0, .int .i64 0] 30)).heap.size = w.heap.size + 1 by simp] at h
  exact ⟨(Row.new w _ _).alloc _, h, kept_alloc (kept_alloc (kept_refl w) _) _⟩
theorem N2.put1 {w w' w'' : World} {p q a1 a2 : Int} {z : Cl} (h : N2 w w' p q z) (hn : Row w'' w.heap.size 30 #[.int .i64 a1, .int .i64 a2]) (hg : w'.grownBy w'' (some w.heap.size)) : N2 w w'' a1 a2 z :=
  ⟨hn, h.c.other hg (by omega), below_own h.low hg (Nat.le_refl _)⟩
theorem N2.put2 {w w' w'' : World} {a1 a2 : Int} {z y : Cl} (h : N2 w w' a1 a2 z) (hn : CeAt w'' (w.heap.size + 1) 38 y) (hg : w'.grownBy w'' (some (w.heap.size + 1))) : N2 w w'' a1 a2 y :=
  ⟨h.r.grown hg (by simp), hn, below_own h.low hg (by omega)⟩
/-- .. wherever they lie. -/
structure P2 (w : World) (q : Nat) (a1 a2 : Int) (z : Cl) : Prop where
  r : Row w q 30 #[.int .i64 a1, .int .i64 a2]
  c : CeAt w (q + 1) 38 z
theorem P2.kept {w w' : World} {q : Nat} {a1 a2 : Int} {z : Cl} (h : P2 w q a1 a2 z) (hb : Below w.heap.size w w') : P2 w' q a1 a2 z := ⟨h.r.below hb h.r.lt, h.c.kept hb⟩
theorem N2.p {w w' : World} {a1 a2 : Int} {z : Cl} (h : N2 w w' a1 a2 z) : P2 w' w.heap.size a1 a2 z := ⟨h.r, h.c⟩
theorem same_made {w : World} {v u : Value} {zs : List Int} (hv : Slv w v zs) (hu : Slv w u zs) (ln : zs.length ≤ 4611686018427387904) :
    Calls Tryz.prog 18 #[v, u] w fun e w' => e = .returned (.bool true) ∧ Below w.heap.size w w' := by
  obtain ⟨A, c, rfl, hA, _⟩ := hv
  obtain ⟨B, d, rfl, hB, _⟩ := hu
  refine (same_any A B _ _ c d zs zs w rfl rfl hA hB ln ln).mono ?_
  rintro e w' ⟨rfl, q, rfl⟩
  exact ⟨by rw [decide_eq_true rfl], kept_drewN (kept_refl w) q⟩
theorem eql_cell {x y : Cl} (h : x.a.length = 8) (h' : y.a.length = 8) (w : World) : (binOp .eql 38 (.agg (clC x)) (.agg (clC y))).run Tryz.prog w = .ok (.bool (sameCl x y)) w := by
  obtain ⟨st, ⟨p1, p2⟩, ⟨v1, v2⟩, ⟨kx, cx, qx, kax, kbx, kox, kvx⟩, ax, s⟩ := x
  obtain ⟨st', ⟨p1', p2'⟩, ⟨v1', v2'⟩, ⟨kx', cx', qx', kax', kbx', kox', kvx'⟩, ax', s'⟩ := y
  dsimp only at h h'
  obtain ⟨x0, x1, x2, x3, x4, x5, x6, x7, rfl⟩ := len8 h
  obtain ⟨x0', x1', x2', x3', x4', x5', x6', x7', rfl⟩ := len8 h'
  rw [run_eql_struct, show (10000 : Nat) = 9996 + 4 from rfl]
  have e := eqd_cell 9996 st p1 p2 v1 v2 kx cx qx kax kbx kox kvx x0 x1 x2 x3 x4 x5 x6 x7 s st' p1' p2' v1' v2' kx' cx' qx' kax' kbx' kox' kvx' x0' x1' x2' x3' x4' x5' x6' x7' s' w
  exact (congrArg (fun r => Result.andThen r fun b w' => Result.ok (Value.bool b) w') e)
theorem encRec_short {i : Int × Int} {c : Cl} (h8 : c.a.length = 8) (hr : rightCl c = true) (hs : lightB c = true) : (encRec i c).length ≤ 4611686018427387904 := by
  unfold encRec encCl
  rw [if_pos hr, List.length_append]
  have h1 := encB_len i
  have h2 := (encX_len h8).2
  unfold lightB sizeC at hs
  have h3 := of_decide_eq_true hs
  omega
end Go.Proofs.YtiaegloipnhhdaaGreat
