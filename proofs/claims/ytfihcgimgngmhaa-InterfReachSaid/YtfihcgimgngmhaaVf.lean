/- While the document's Prune goes on. No condition: no walk. -/
import Derived.Test.YtfihcgimgngmhaaVe
import Derived.LoopTactic
import Derived.Deep.DeepCutAuto
import Derived.BigQuiet
import Derived.Lib.MinMax
namespace Go.Proofs.Ytfihcgimgngmhaa
set_option maxRecDepth 100000
open Go.RowKit
/-- A row of seven, told anew place by place. -/
def genk (f : Nat → Int) (a : List Int) (k : Nat) : List Int := (List.range 7).map fun i => if i < k then f i else ix a i
theorem genk_len (f : Nat → Int) (a : List Int) (k : Nat) : (genk f a k).length = 7 := len_map7 _
theorem genk_0 (f : Nat → Int) {a : List Int} (h : a.length = 7) : genk f a 0 = a := by
  refine List.ext_getElem (by rw [genk_len, h]) fun i h1 h2 => ?_
  rw [← ix_lt _ h1, ← ix_lt _ h2, genk, ix_map7 _ (by rw [h] at h2; exact h2), if_neg (Nat.not_lt_zero _)]
theorem genk_at (f : Nat → Int) (a : List Int) {k : Nat} (hk : k < 7) : ix (genk f a k) k = ix a k := by rw [genk, ix_map7 _ hk, if_neg (Nat.lt_irrefl _)]
theorem genk_step (f : Nat → Int) (a : List Int) (k : Nat) : (genk f a k).set k (f k) = genk f a (k + 1) := by
  refine List.ext_getElem (by rw [List.length_set, genk_len, genk_len]) fun i h1 h2 => ?_
  have hi : i < 7 := by rw [genk_len] at h2; exact h2
  rw [List.getElem_set]
  have e2 : (genk f a (k + 1))[i]'h2 = if i < k + 1 then f i else ix a i := by rw [← ix_lt _ h2, genk, ix_map7 _ hi]
  rw [e2]
  by_cases hik : k = i
  · subst hik
    rw [if_pos rfl, if_pos (by omega)]
  · rw [if_neg hik, ← ix_lt _ (by rw [genk_len]; exact hi), genk, ix_map7 _ hi]
    by_cases h3 : i < k
    · rw [if_pos h3, if_pos (by omega)]
    · rw [if_neg h3, if_neg (by omega)]
theorem genk_7 (f : Nat → Int) (a : List Int) : genk f a 7 = (List.range 7).map f := by
  unfold genk
  exact List.map_congr_left fun i hi => if_pos (List.mem_range.1 hi)
theorem ixC_putk (vL vC vS : Value) (d : List Int) (k : Nat) (v : Int) : (ixC vL vC vS d).setIfInBounds (3 + k) (.int .i64 v) = ixC vL vC vS (d.set k v) := by
  unfold ixC
  rw [List.setIfInBounds_toArray, show 3 + k = k + 1 + 1 + 1 by omega, List.set_cons_succ, List.set_cons_succ, List.set_cons_succ, List.map_set]
theorem Rw.low {base b2 sz : Nat} {e : TypeId} {w : World} {v : Value} {xs : List (List Value)} (h : Rw base e sz w v xs) (hb : b2 ≤ base) : Rw b2 e sz w v xs := by
  unfold Rw at h ⊢
  refine ⟨h.1, h.2.imp_right ?_⟩
  rintro ⟨g, cap, cur, e1, h1, h2⟩
  exact ⟨g, cap, cur, e1, Nat.le_trans hb h1, h2⟩
theorem Rx.low {base b2 g : Nat} {w : World} {vL vC vS : Value} {x : Ix} (h : Rx base w g vL vC vS x) (hb : b2 ≤ base) : Rx b2 w g vL vC vS x := ⟨h.row, h.rl.low hb, h.rc.low hb, h.rs.low hb, h.d7⟩
theorem Rx.cutAt {base g : Nat} {w : World} {vL vC vS : Value} {x : Ix} (h : Rx base w g vL vC vS x) {k : Nat} (hk : k < 7) : w.cell? ⟨g, 3 + k, none⟩ = some (.int .i64 (ix x.d k)) := by
  rw [h.row.cell, ixC_cut _ _ _ _ (by rw [h.d7]; exact hk)]
/-- A cell of the Index itself is stored. -/
theorem Rx.putCut {base g : Nat} {w : World} {vL vC vS : Value} {x : Ix} (h : Rx base w g vL vC vS x) (k : Nat) (v : Int) : Rx base (w.setCell ⟨g, 3 + k, none⟩ (.int .i64 v)) g vL vC vS ⟨x.k, x.d.set k v⟩ := by
  have hg := grown_put (grown_refl w (some g)) (3 + k) (.int .i64 v)
  exact ⟨ixC_putk vL vC vS x.d k v ▸ h.row.put (3 + k) _, h.rl.far hg (rw_off h.rl h.row (by decide)), h.rc.far hg (rw_off h.rc h.row (by decide)), h.rs.far hg (rw_off h.rs h.row (by decide)), by rw [List.length_set]; exact h.d7⟩
/-- Prune goes on: the old Index, the bounds, the new one. -/
structure Pa (base : Nat) (w wr : World) (g : Nat) (vL vC vS : Value) (x : Ix) (u : List Int) (yL yC yS : Value) (y : Ix) : Prop where
  low : Below w.heap.size w wr
  rx : Rx base wr g vL vC vS x
  bu : Row wr w.heap.size 32 (cA u)
  ry : Rx w.heap.size wr (w.heap.size + 1) yL yC yS y
section
variable {base g : Nat} {w wr wx : World} {vL vC vS yL yC yS : Value} {x y : Ix} {u : List Int}
theorem Pa.below (h : Pa base w wr g vL vC vS x u yL yC yS y) (hb : Below wr.heap.size wr wx) : Pa base w wx g vL vC vS x u yL yC yS y :=
  ⟨kept_trans h.low hb, h.rx.below hb, h.bu.below hb h.bu.lt, h.ry.below hb⟩
theorem Pa.drew (h : Pa base w wr g vL vC vS x u yL yC yS y) : Pa base w wr.drew g vL vC vS x u yL yC yS y := h.below (kept_drewN (kept_refl wr) 1)
theorem Rx.blocks (h : Rx base w g vL vC vS x) : ∀ k, rxO g vL vC vS k → k < w.heap.size := fun k hk => by
  rcases hk with rfl | e | e | e
  · exact h.row.lt
  · exact (World.ownsRow.lt h.rl k e).2
  · exact (World.ownsRow.lt h.rc k e).2
  · exact (World.ownsRow.lt h.rs k e).2
theorem Pa.putCut (hx : Rx base w g vL vC vS x) (h : Pa base w wr g vL vC vS x u yL yC yS y) (k : Nat) (v : Int) : Pa base w (wr.setCell ⟨w.heap.size + 1, 3 + k, none⟩ (.int .i64 v)) g vL vC vS x u yL yC yS ⟨y.k, y.d.set k v⟩ := by
  have hg := grown_put (grown_refl wr (some (w.heap.size + 1))) (3 + k) (.int .i64 v)
  refine ⟨h.low.setCell (by show w.heap.size ≤ w.heap.size + 1; omega) _, h.rx.keep (o := fun b => b = w.heap.size + 1) (.grown hg (fun b e => (Option.some.inj e).symm)) (fun b hb e => ?_), h.bu.grown hg (by simp), h.ry.putCut k v⟩
  have := hx.blocks b hb
  omega
end
section
variable {base g : Nat} {w wd wz w3 : World} {vL vC vS yL yC yS zL zC zS : Value} {x y z : Ix} {u : List Int}
theorem Pa.high (h : Pa base w wd g vL vC vS x u yL yC yS y) {b : Nat} (hb : yL.ownBlock = some b ∨ yC.ownBlock = some b ∨ yS.ownBlock = some b) : w.heap.size ≤ b := by
  rcases hb with e | e | e
  · exact (World.ownsRow.lt h.ry.rl b e).1
  · exact (World.ownsRow.lt h.ry.rc b e).1
  · exact (World.ownsRow.lt h.ry.rs b e).1
theorem Pa.part (hx : Rx base w g vL vC vS x) (h : Pa base w wd g vL vC vS x u yL yC yS y) (hk : Kp3 yL.ownBlock yC.ownBlock yS.ownBlock wd wz) : Rx base wz g vL vC vS x ∧ Row wz (w.heap.size + 1) 46 (ixC yL yC yS y.d) :=
  ⟨h.rx.keep hk.kq (fun b hb e => by have h1 := hx.blocks b hb; have h2 := h.high e; omega), hk.row h.ry.row (rw_off h.ry.rl h.ry.row (by decide)) (rw_off h.ry.rc h.ry.row (by decide)) (rw_off h.ry.rs h.ry.row (by decide))⟩
theorem Pa.grow (hx : Rx base w g vL vC vS x) (h : Pa base w wd g vL vC vS x u yL yC yS y) (hk : Kp3 yL.ownBlock yC.ownBlock yS.ownBlock wd wz) (hg : wz.grownBy w3 (some (w.heap.size + 1))) (hy : Rx w.heap.size w3 (w.heap.size + 1) zL zC zS z) : Pa base w w3 g vL vC vS x u zL zC zS z := by
  have kg : Kq (fun b => b = w.heap.size + 1) wz w3 := .grown hg (fun b e => (Option.some.inj e).symm)
  have hlow := hk.kq.below h.low h.low.size (fun k hk e => by have := h.high e; omega)
  refine ⟨kg.below hlow hlow.size (fun k hk e => by omega), (h.part hx hk).1.keep kg (fun b hb e => by have := hx.blocks b hb; omega), (hk.row h.bu ?_ ?_ ?_).grown hg (by simp), hy⟩
  · exact rw_off h.ry.rl h.bu (by decide)
  · exact rw_off h.ry.rc h.bu (by decide)
  · exact rw_off h.ry.rs h.bu (by decide)
end
end Go.Proofs.Ytfihcgimgngmhaa
/- The document's Prune of package interf's chapter. Conditions: the Index lies in memory; what it holds is right; it holds few. -/
namespace Go.Proofs.Ytfihcgimgngmhaa
set_option maxRecDepth 100000
open Go.RowKit
theorem rw_nil (base : Nat) (e : TypeId) (sz : Nat) (w : World) : Rw base e sz w (.slice none 0 0) [] := ⟨by simp [cellsV], .inl ⟨rfl, rfl⟩⟩
theorem Pa.start {base g : Nat} {w : World} {vL vC vS : Value} {x : Ix} (h : Rx base w g vL vC vS x) (u0 u1 u2 u3 u4 u5 u6 : Int) :
    Pa base w ((w.alloc (.cells #[.int .i64 u0, .int .i64 u1, .int .i64 u2, .int .i64 u3, .int .i64 u4, .int .i64 u5, .int .i64 u6] 32)).alloc (.cells #[.slice none 0 0, .slice none 0 0, .slice none 0 0, .int .i64 0, .int .i64 0, .int .i64 0, .int .i64 0, .int .i64 0, .int .i64 0, .int .i64 0] 46)) g vL vC vS x [u0, u1, u2, u3, u4, u5, u6] (.slice none 0 0) (.slice none 0 0) (.slice none 0 0) zeroX := by
  have hb := kept_alloc (kept_alloc (kept_refl w) (.cells #[.int .i64 u0, .int .i64 u1, .int .i64 u2, .int .i64 u3, .int .i64 u4, .int .i64 u5, .int .i64 u6] 32)) (.cells #[.slice none 0 0, .slice none 0 0, .slice none 0 0, .int .i64 0, .int .i64 0, .int .i64 0, .int .i64 0, .int .i64 0, .int .i64 0, .int .i64 0] 46)
  refine ⟨hb, h.below hb, (Row.new w _ _).alloc _, ⟨?_, rw_nil _ _ _ _, rw_nil _ _ _ _, rw_nil _ _ _ _, rfl⟩⟩
  have h1 := Row.new (w.alloc (.cells #[.int .i64 u0, .int .i64 u1, .int .i64 u2, .int .i64 u3, .int .i64 u4, .int .i64 u5, .int .i64 u6] 32)) 46 #[.slice none 0 0, .slice none 0 0, .slice none 0 0, .int .i64 0, .int .i64 0, .int .i64 0, .int .i64 0, .int .i64 0, .int .i64 0, .int .i64 0]
  have hs : (w.alloc (.cells #[.int .i64 u0, .int .i64 u1, .int .i64 u2, .int .i64 u3, .int .i64 u4, .int .i64 u5, .int .i64 u6] 32)).heap.size = w.heap.size + 1 := by simp
  rw [hs] at h1
  exact h1
theorem len7 {x : List Int} (h : x.length = 7) : ∃ x0 x1 x2 x3 x4 x5 x6, x = [x0, x1, x2, x3, x4, x5, x6] := by
  match x, h with
  | [a, b, c, d, e, f, g], _ => exact ⟨a, b, c, d, e, f, g, rfl⟩
/-- A bound of Prune. -/
def upN (d u : List Int) (k : Nat) : Int := max (ix d k) (min (max (ix u k) 0) 1073741824)
theorem Pa.seven {base g : Nat} {w wr : World} {vL vC vS yL yC yS : Value} {x : Ix} {u : List Int} {d0 d1 d2 d3 d4 d5 d6 : Int} (hx : Rx base w g vL vC vS x) (h : Pa base w wr g vL vC vS x u yL yC yS zeroX) :
    Pa base w (((((((wr.setCell ⟨w.heap.size + 1, 3, none⟩ (.int .i64 d0)).setCell ⟨w.heap.size + 1, 4, none⟩ (.int .i64 d1)).setCell ⟨w.heap.size + 1, 5, none⟩ (.int .i64 d2)).setCell ⟨w.heap.size + 1, 6, none⟩ (.int .i64 d3)).setCell ⟨w.heap.size + 1, 7, none⟩ (.int .i64 d4)).setCell ⟨w.heap.size + 1, 8, none⟩ (.int .i64 d5)).setCell ⟨w.heap.size + 1, 9, none⟩ (.int .i64 d6)) g vL vC vS x u yL yC yS ⟨[], [d0, d1, d2, d3, d4, d5, d6]⟩ :=
  ((((((h.putCut hx 0 d0).putCut hx 1 d1).putCut hx 2 d2).putCut hx 3 d3).putCut hx 4 d4).putCut hx 5 d5).putCut hx 6 d6
/-- The Index becomes another one. -/
theorem Rx.become {b2 g h : Nat} {w : World} {vL vC vS yL yC yS : Value} {k : List En} {d0 d1 d2 d3 d4 d5 d6 e0 e1 e2 e3 e4 e5 e6 : Int} (hr : Row w g 46 (ixC vL vC vS [d0, d1, d2, d3, d4, d5, d6])) (y : Rx b2 w h yL yC yS ⟨k, [e0, e1, e2, e3, e4, e5, e6]⟩) {w' : World}
    (hw : w' = (((((((((w.setCell ⟨g, 0, none⟩ yL).setCell ⟨g, 1, none⟩ yC).setCell ⟨g, 2, none⟩ yS).setCell ⟨g, 3, none⟩ (.int .i64 e0)).setCell ⟨g, 4, none⟩ (.int .i64 e1)).setCell ⟨g, 5, none⟩ (.int .i64 e2)).setCell ⟨g, 6, none⟩ (.int .i64 e3)).setCell ⟨g, 7, none⟩ (.int .i64 e4)).setCell ⟨g, 8, none⟩ (.int .i64 e5)).setCell ⟨g, 9, none⟩ (.int .i64 e6)) :
    Rx b2 w' g yL yC yS ⟨k, [e0, e1, e2, e3, e4, e5, e6]⟩ ∧ w.grownBy w' (some g) := by
  subst hw
  have z := (((((((((hr.put 0 yL).put 1 yC).put 2 yS).put (3 + 0) (.int .i64 e0)).put (3 + 1) (.int .i64 e1)).put (3 + 2) (.int .i64 e2)).put (3 + 3) (.int .i64 e3)).put (3 + 4) (.int .i64 e4)).put (3 + 5) (.int .i64 e5)).put (3 + 6) (.int .i64 e6)
  rw [ixC_put0, ixC_put1, ixC_put2, ixC_putk, ixC_putk, ixC_putk, ixC_putk, ixC_putk, ixC_putk, ixC_putk] at z
  have hg := grown_put (grown_put (grown_put (grown_put (grown_put (grown_put (grown_put (grown_put (grown_put (grown_put (grown_refl w (some g)) 0 yL) 1 yC) 2 yS) 3 (.int .i64 e0)) 4 (.int .i64 e1)) 5 (.int .i64 e2)) 6 (.int .i64 e3)) 7 (.int .i64 e4)) 8 (.int .i64 e5)) 9 (.int .i64 e6)
  exact ⟨⟨z, y.rl.far hg (rw_off y.rl hr (by decide)), y.rc.far hg (rw_off y.rc hr (by decide)), y.rs.far hg (rw_off y.rs hr (by decide)), rfl⟩, hg⟩
set_option maxHeartbeats 8000000 in
theorem rprune_any (base g : Nat) (vL vC vS : Value) (x : Ix) (u0 u1 u2 u3 u4 u5 u6 : Int) (w : World) (h : Rx base w g vL vC vS x) (hb : base ≤ w.heap.size) (hk : Kn x) (hl : x.k.length ≤ 1000) :
    Calls Try.prog 19 #[.pointer (some ⟨g, 0, none⟩), .agg #[.int .i64 u0, .int .i64 u1, .int .i64 u2, .int .i64 u3, .int .i64 u4, .int .i64 u5, .int .i64 u6]] w (fun e w' => e = .returned (.tuple #[]) ∧ ∃ vL' vC' vS', Rx base w' g vL' vC' vS' (pruneX x [u0, u1, u2, u3, u4, u5, u6]) ∧ Kq (rxO g vL vC vS) w w') := by
  obtain ⟨A, a, B, b, C, cc, rfl, rfl, rfl, ha, hb2, hc2⟩ := h.form
  have H0 := hide (Pa.start h u0 u1 u2 u3 u4 u5 u6)
  have HX := hide h
  have HK := hide hk
  have HB := hide hb
  obtain ⟨n, hnn⟩ : ∃ n, x.k.length = n := ⟨_, rfl⟩
  rw [hnn] at H0 HX ha hb2 hc2 hl ⊢
  have HNN := hide hnn
  clear h hk hb hnn
  go_enter Try.func19, Try.ntmps19
  go_upto_region 2 with (fail)
  generalize World.alloc (World.alloc w _) _ = w1 at H0 ⊢
  obtain ⟨d0, d1, d2, d3, d4, d5, d6, hd⟩ := len7 HX.out.d7
  have HD := hide hd
  have b3 : w1.cell? ⟨g, 3, none⟩ = some (.int .i64 d0) := by have h := H0.out.rx.cutAt (k := 0) (by omega); rw [hd] at h; exact h
  have b4 : w1.cell? ⟨g, 4, none⟩ = some (.int .i64 d1) := by have h := H0.out.rx.cutAt (k := 1) (by omega); rw [hd] at h; exact h
  have b5 : w1.cell? ⟨g, 5, none⟩ = some (.int .i64 d2) := by have h := H0.out.rx.cutAt (k := 2) (by omega); rw [hd] at h; exact h
  have b6 : w1.cell? ⟨g, 6, none⟩ = some (.int .i64 d3) := by have h := H0.out.rx.cutAt (k := 3) (by omega); rw [hd] at h; exact h
  have b7 : w1.cell? ⟨g, 7, none⟩ = some (.int .i64 d4) := by have h := H0.out.rx.cutAt (k := 4) (by omega); rw [hd] at h; exact h
  have b8 : w1.cell? ⟨g, 8, none⟩ = some (.int .i64 d5) := by have h := H0.out.rx.cutAt (k := 5) (by omega); rw [hd] at h; exact h
  have b9 : w1.cell? ⟨g, 9, none⟩ = some (.int .i64 d6) := by have h := H0.out.rx.cutAt (k := 6) (by omega); rw [hd] at h; exact h
  have c3 : w1.cell? ⟨w.heap.size + 1, 3, none⟩ = some (.int .i64 0) := H0.out.ry.row.cell 3
  have c4 : w1.cell? ⟨w.heap.size + 1, 4, none⟩ = some (.int .i64 0) := H0.out.ry.row.cell 4
  have c5 : w1.cell? ⟨w.heap.size + 1, 5, none⟩ = some (.int .i64 0) := H0.out.ry.row.cell 5
  have c6 : w1.cell? ⟨w.heap.size + 1, 6, none⟩ = some (.int .i64 0) := H0.out.ry.row.cell 6
  have c7 : w1.cell? ⟨w.heap.size + 1, 7, none⟩ = some (.int .i64 0) := H0.out.ry.row.cell 7
  have c8 : w1.cell? ⟨w.heap.size + 1, 8, none⟩ = some (.int .i64 0) := H0.out.ry.row.cell 8
  have c9 : w1.cell? ⟨w.heap.size + 1, 9, none⟩ = some (.int .i64 0) := H0.out.ry.row.cell 9
  have f3 := H0.out.ry.row.free 3
  have f4 := H0.out.ry.row.free 4
  have f5 := H0.out.ry.row.free 5
  have f6 := H0.out.ry.row.free 6
  have f7 := H0.out.ry.row.free 7
  have f8 := H0.out.ry.row.free 8
  have f9 := H0.out.ry.row.free 9
  have H1 := hide (Pa.seven (d0 := d0) (d1 := d1) (d2 := d2) (d3 := d3) (d4 := d4) (d5 := d5) (d6 := d6) HX.out H0.out)
  rw [← hd] at H1
  clear H0 hd
  go_upto_region 3 with (fail)
  generalize (((((((w1.setCell ⟨w.heap.size + 1, 3, none⟩ _).setCell ⟨w.heap.size + 1, 4, none⟩ _).setCell ⟨w.heap.size + 1, 5, none⟩ _).setCell ⟨w.heap.size + 1, 6, none⟩ _).setCell ⟨w.heap.size + 1, 7, none⟩ _).setCell ⟨w.heap.size + 1, 8, none⟩ _).setCell ⟨w.heap.size + 1, 9, none⟩ _) = w2 at H1 ⊢
  clear b3 b4 b5 b6 b7 b8 b9 c3 c4 c5 c6 c7 c8 c9 f3 f4 f5 f6 f7 f8 f9
  obtain ⟨u, hu⟩ : ∃ u, [u0, u1, u2, u3, u4, u5, u6] = u := ⟨_, rfl⟩
  have HU := hide hu
  rw [hu] at H1
  have HU7 := hide (show u.length = 7 by rw [← hu]; rfl)
  clear hu
  go_wp2
  go_loopw [5] (fun i wr => ∃ k : Nat, k ≤ 7 ∧ i = .int .i64 k ∧ Hid (Pa base w wr g (.slice A n a) (.slice B n b) (.slice C n cc) x u (.slice none 0 0) (.slice none 0 0) (.slice none 0 0) ⟨[], genk (upN x.d u) x.d k⟩)) (fun i _ => 7 - (intOf i).toNat)
  case atStart => exact ⟨0, by omega, rfl, hide (by rw [genk_0 _ HX.out.d7]; exact H1.out)⟩
  case round =>
    clear H1
    obtain ⟨k, hk, rfl, HR⟩ := hrel
    by_cases hk7 : k < 7
    · have hk7i : (k : Int) < 7 := by omega
      have hk0i : (0 : Int) ≤ (k : Int) := by omega
      go_upto_region 6 with (fail)
      have f1 : wr.cell? ⟨w.heap.size + 1, 3 + k, none⟩ = some (.int .i64 (ix x.d k)) := by
        have := HR.out.ry.cutAt hk7
        rw [genk_at _ _ hk7] at this
        exact this
      have f2 : wr.cell? ⟨w.heap.size, k, none⟩ = some (.int .i64 (ix u k)) := row_cA HR.out.bu k (by rw [HU7.out]; exact hk7)
      have g1 : wr.frozen? ⟨w.heap.size + 1, 3 + k, none⟩ = false := HR.out.ry.row.free (3 + k)
      have H2 := hide (show Pa base w (wr.setCell ⟨w.heap.size + 1, 3 + k, none⟩ (.int .i64 (max (ix x.d k) (min (max (ix u k) 0) 1073741824)))).drew g (.slice A n a) (.slice B n b) (.slice C n cc) x u (.slice none 0 0) (.slice none 0 0) (.slice none 0 0) ⟨[], genk (upN x.d u) x.d (k + 1)⟩ from by
        have h := (HR.out.putCut HX.out k (upN x.d u k)).drew
        have e : (genk (upN x.d u) x.d k).set k (upN x.d u k) = genk (upN x.d u) x.d (k + 1) := genk_step _ _ _
        rw [← e]
        exact h)
      clear HR
      go_region
      clear f1 f2 g1
      generalize World.drew (World.setCell wr _ _) = wv at H2 ⊢
      go_wp2
      go_roundw
      case rel => exact ⟨k + 1, by omega, by go_num, H2⟩
      case measure => simp [intOf]; omega
    · obtain rfl : k = 7 := by omega
      rw [genk_7] at HR
      obtain ⟨D, hD⟩ : ∃ D, (List.range 7).map (upN x.d u) = D := ⟨_, rfl⟩
      have HDD := hide hD
      rw [hD] at HR
      clear hD
      go_wp2
      go_loopw [6] (fun i wr => ∃ j : Nat, j ≤ n ∧ i = .int .i64 j ∧ ∃ yL yC yS, Hid (Pa base w wr g (.slice A n a) (.slice B n b) (.slice C n cc) x u yL yC yS ⟨(x.k.take j).filter (overB D), D⟩)) (fun i _ => n - (intOf i).toNat)
      case atStart => exact ⟨0, by omega, rfl, _, _, _, HR⟩
      case round =>
        clear HR
        obtain ⟨j, hj, rfl, yL, yC, yS, HR⟩ := hrel
        have x0 : wr.cell? ⟨g, 0, none⟩ = some (.slice A n a) := HR.out.rx.row.cell 0
        by_cases hjn : j < n
        · obtain ⟨e, he⟩ : ∃ e, x.k[j]? = some e := ⟨_, List.getElem?_eq_getElem (by rw [HNN.out]; exact hjn)⟩
          have hem := List.mem_of_getElem? he
          have HTK := hide (show (x.k.take (j + 1)).filter (overB D) = (x.k.take j).filter (overB D) ++ [e].filter (overB D) by rw [List.take_add_one, he]; exact List.filter_append ..)
          have HAT := hide he
          obtain ⟨hr1, hr2, hr3, hr4, hr5⟩ := may_iff.1 (HK.out.ok e hem)
          obtain ⟨q0, q7, q1, qm⟩ := rightI_is hr1
          obtain ⟨rk, hrk⟩ : ∃ k : Nat, e.r = k := ⟨e.r.toNat, by omega⟩
          have HRK := hide hrk
          have hrk7 : rk < 7 := by omega
          have hrk7i : (rk : Int) < 7 := by omega
          have hrk0 : (0 : Int) ≤ (rk : Int) := by omega
          have hjn' : (j : Int) < (n : Int) := by omega
          obtain ⟨gL, gC, gS, rfl, rfl, rfl, -⟩ := HR.out.rx.at_ HAT.out
          obtain ⟨⟨l0, l1⟩, _, _⟩ := HR.out.rx.here HAT.out
          rw [hrk] at l0
          have c0 := HR.out.ry.cutAt hrk7
          obtain ⟨t, ht⟩ : ∃ t, decide (ix D rk < e.s) = t := ⟨_, rfl⟩
          have HT := hide (show overB D e = t by unfold overB; rw [hrk, Int.toNat_natCast]; exact ht)
          have ht : decide (ix D rk < e.s) = t := ht
          obtain ⟨Dr, hDr⟩ : ∃ z, ix D rk = z := ⟨_, rfl⟩
          have c0 : wr.cell? ⟨w.heap.size + 1, 3 + rk, none⟩ = some (.int .i64 Dr) := hDr ▸ c0
          rw [hDr] at ht
          clear he hem hr1 hr2 hr3 hr4 hr5 q0 q7 hrk hDr
          cases t
          case false =>
            go_upto_region 10 with (fail)
            go_region
            clear ht x0 l0 l1 c0
            have OK := hide HR.out.drew
            generalize World.drew wr = wy at OK ⊢
            go_wp2
            go_roundw
            case rel => exact ⟨j + 1, by omega, by go_num, yL, yC, yS, hide (by rw [HTK.out, show [e].filter (overB D) = [] by simp [HT.out], List.append_nil]; exact OK.out)⟩
            case measure => simp [intOf]; omega
          case true =>
            go_upto_region 10 with (fail)
            go_region
            clear ht x0 l0 l1 c0
            have OK := hide HR.out.drew
            generalize World.drew wr = wy at OK ⊢
            go_upto_region 11 with (fail)
            obtain ⟨p, hp⟩ : ∃ p, (x.k.take j).filter (overB D) = p := ⟨_, rfl⟩
            have HPP := hide hp
            rw [hp] at OK
            have hpl : p.length ≤ 1000 := by rw [← hp]; exact Nat.le_trans (List.length_filter_le _ _) (Nat.le_trans (List.length_take_le _ _) (by omega))
            clear hp
            obtain ⟨A2, a2, B2, b2, C2, c2, rfl, rfl, rfl, ha3, hb3, hc3⟩ := OK.out.ry.form
            replace OK : Hid (Pa base w wy g (.slice (some ⟨gL, 0, none⟩) n a) (.slice (some ⟨gC, 0, none⟩) n b) (.slice (some ⟨gS, 0, none⟩) n cc) x u (.slice A2 p.length a2) (.slice B2 p.length b2) (.slice C2 p.length c2) ⟨p, D⟩) := OK
            clear ha3 hb3 hc3
            obtain ⟨m, hm⟩ : ∃ m, p.length = m := ⟨_, rfl⟩
            have HM := hide hm
            rw [hm] at OK hpl
            clear hm
            refine wp_region_noPanic ?_
            refine wp_region_U 34 (fun w' => Rx base w' g (.slice (some ⟨gL, 0, none⟩) n a) (.slice (some ⟨gC, 0, none⟩) n b) (.slice (some ⟨gS, 0, none⟩) n cc) x ∧ Row w' (w.heap.size + 1) 46 (ixC (.slice A2 m a2) (.slice B2 m b2) (.slice C2 m c2) D)) (by kernel_rfl) ?_
            have HP := hide OK.out.drew
            clear OK
            generalize World.drew _ = wd at HP ⊢
            have HS := hide (show (fun w' => Rx base w' g (.slice (some ⟨gL, 0, none⟩) n a) (.slice (some ⟨gC, 0, none⟩) n b) (.slice (some ⟨gS, 0, none⟩) n cc) x ∧ Row w' (w.heap.size + 1) 46 (ixC (.slice A2 m a2) (.slice B2 m b2) (.slice C2 m c2) D)) wd from ⟨HP.out.rx, HP.out.ry.row⟩)
            refine anyU_pure (i := 0) (v := ?ov0p) (by simp only [List.getElem?_toArray, List.getElem?_cons_zero]; exact rfl) (by kernel_rfl) (by kernel_rfl) (fun _ _ _ h => h) (fun _ => by with_reducible exact HS.out) (by kernel_rfl) (by kernel_rfl) (Or.inl ⟨by rfl, ?oy0p⟩) ?or0p
            case oy0p => (intro w hSw; go_simp; try with_reducible rfl)
            try simp only [Act.put, List.setIfInBounds_toArray, List.set_cons_zero, List.set_cons_succ]
            refine anyU_take2 (i := 1) (v := ?ov1p) (by simp only [List.getElem?_toArray, List.getElem?_cons_succ, List.getElem?_cons_zero]; exact rfl) (by kernel_rfl) 12 (by kernel_rfl) (by kernel_rfl) (fun _ _ _ h => h) (by kernel_rfl) (by kernel_rfl) (by kernel_rfl) (by kernel_rfl) (Or.inl ⟨by rfl, ?oy1p⟩) (by with_reducible exact HS.out) ?or1p
            case oy1p => (intro w' hSw; have x0 := show w'.cell? ⟨w.heap.size + 1, 0, none⟩ = some (.slice A2 m a2) from Row.cell hSw.2 0; go_simp; try with_reducible rfl)
            try simp only [Act.put, List.setIfInBounds_toArray, List.set_cons_zero, List.set_cons_succ]
            refine anyU_pure (i := 2) (v := ?ov2p) (by simp only [List.getElem?_toArray, List.getElem?_cons_succ, List.getElem?_cons_zero]; exact rfl) (by kernel_rfl) (by kernel_rfl) (fun _ _ _ h => h) (fun _ => by with_reducible exact HS.out) (by kernel_rfl) (by kernel_rfl) (Or.inl ⟨by rfl, ?oy2p⟩) ?or2p
            case oy2p => (intro w hSw; go_simp; try with_reducible rfl)
            try simp only [Act.put, List.setIfInBounds_toArray, List.set_cons_zero, List.set_cons_succ]
            refine anyU_pure (i := 3) (v := ?ov3p) (by simp only [List.getElem?_toArray, List.getElem?_cons_succ, List.getElem?_cons_zero]; exact rfl) (by kernel_rfl) (by kernel_rfl) (fun _ _ _ h => h) (fun _ => by with_reducible exact HS.out) (by kernel_rfl) (by kernel_rfl) (Or.inl ⟨by rfl, ?oy3p⟩) ?or3p
            case oy3p => (intro w hSw; go_simp; try with_reducible rfl)
            try simp only [Act.put, List.setIfInBounds_toArray, List.set_cons_zero, List.set_cons_succ]
            refine anyU_pure (i := 4) (v := ?ov4p) (by simp only [List.getElem?_toArray, List.getElem?_cons_succ, List.getElem?_cons_zero]; exact rfl) (by kernel_rfl) (by kernel_rfl) (fun _ _ _ h => h) (fun _ => by with_reducible exact HS.out) (by kernel_rfl) (by kernel_rfl) (Or.inl ⟨by rfl, ?oy4p⟩) ?or4p
            case oy4p => (intro w hSw; go_simp; try with_reducible rfl)
            try simp only [Act.put, List.setIfInBounds_toArray, List.set_cons_zero, List.set_cons_succ]
            refine anyU_take2 (i := 5) (v := ?ov5p) (by simp only [List.getElem?_toArray, List.getElem?_cons_succ, List.getElem?_cons_zero]; exact rfl) (by kernel_rfl) 12 (by kernel_rfl) (by kernel_rfl) (fun _ _ _ h => h) (by kernel_rfl) (by kernel_rfl) (by kernel_rfl) (by kernel_rfl) (Or.inl ⟨by rfl, ?oy5p⟩) (by with_reducible exact HS.out) ?or5p
            case oy5p => (intro w' hSw; have x0 := show w'.cell? ⟨g, 0, none⟩ = some (.slice (some ⟨gL, 0, none⟩) n a) from Row.cell hSw.1.row 0; go_simp; try with_reducible rfl)
            try simp only [Act.put, List.setIfInBounds_toArray, List.set_cons_zero, List.set_cons_succ]
            refine anyU_pure (i := 6) (v := ?ov6p) (by simp only [List.getElem?_toArray, List.getElem?_cons_succ, List.getElem?_cons_zero]; exact rfl) (by kernel_rfl) (by kernel_rfl) (fun _ _ _ h => h) (fun _ => by with_reducible exact HS.out) (by kernel_rfl) (by kernel_rfl) (Or.inl ⟨by rfl, ?oy6p⟩) ?or6p
            case oy6p => (intro w hSw; go_simp; try with_reducible rfl)
            try simp only [Act.put, List.setIfInBounds_toArray, List.set_cons_zero, List.set_cons_succ]
            refine anyU_pure (i := 7) (v := ?ov7p) (by simp only [List.getElem?_toArray, List.getElem?_cons_succ, List.getElem?_cons_zero]; exact rfl) (by kernel_rfl) (by kernel_rfl) (fun _ _ _ h => h) (fun _ => by with_reducible exact HS.out) (by kernel_rfl) (by kernel_rfl) (Or.inl ⟨by rfl, ?oy7p⟩) ?or7p
            case oy7p => (intro w hSw; go_simp; try with_reducible rfl)
            try simp only [Act.put, List.setIfInBounds_toArray, List.set_cons_zero, List.set_cons_succ]
            refine anyU_take2 (i := 8) (v := ?ov8p) (by simp only [List.getElem?_toArray, List.getElem?_cons_succ, List.getElem?_cons_zero]; exact rfl) (by kernel_rfl) 12 (by kernel_rfl) (by kernel_rfl) (fun _ _ _ h => h) (by kernel_rfl) (by kernel_rfl) (by kernel_rfl) (by kernel_rfl) (Or.inl ⟨by rfl, ?oy8p⟩) (by with_reducible exact HS.out) ?or8p
            case oy8p => (intro w' hSw; obtain ⟨⟨i0, i1⟩, -, -⟩ := (Rx.here hSw.1 HAT.out); go_simp; try with_reducible rfl)
            try simp only [Act.put, List.setIfInBounds_toArray, List.set_cons_zero, List.set_cons_succ]
            refine anyU_pure (i := 11) (v := ?ov11p) (by simp only [List.getElem?_toArray, List.getElem?_cons_succ, List.getElem?_cons_zero]; exact rfl) (by kernel_rfl) (by kernel_rfl) (fun _ _ _ h => h) (fun _ => by with_reducible exact HS.out) (by kernel_rfl) (by kernel_rfl) (Or.inl ⟨by rfl, ?oy11p⟩) ?or11p
            case oy11p => (intro w hSw; go_simp; try with_reducible rfl)
            try simp only [Act.put, List.setIfInBounds_toArray, List.set_cons_zero, List.set_cons_succ]
            refine anyU_take2 (i := 12) (v := ?ov12p) (by simp only [List.getElem?_toArray, List.getElem?_cons_succ, List.getElem?_cons_zero]; exact rfl) (by kernel_rfl) 12 (by kernel_rfl) (by kernel_rfl) (fun _ _ _ h => h) (by kernel_rfl) (by kernel_rfl) (by kernel_rfl) (by kernel_rfl) (Or.inl ⟨by rfl, ?oy12p⟩) (by with_reducible exact HS.out) ?or12p
            case oy12p => (intro w' hSw; have x0 := show w'.cell? ⟨w.heap.size + 1, 1, none⟩ = some (.slice B2 m b2) from Row.cell hSw.2 1; go_simp; try with_reducible rfl)
            try simp only [Act.put, List.setIfInBounds_toArray, List.set_cons_zero, List.set_cons_succ]
            refine anyU_pure (i := 13) (v := ?ov13p) (by simp only [List.getElem?_toArray, List.getElem?_cons_succ, List.getElem?_cons_zero]; exact rfl) (by kernel_rfl) (by kernel_rfl) (fun _ _ _ h => h) (fun _ => by with_reducible exact HS.out) (by kernel_rfl) (by kernel_rfl) (Or.inl ⟨by rfl, ?oy13p⟩) ?or13p
            case oy13p => (intro w hSw; go_simp; try with_reducible rfl)
            try simp only [Act.put, List.setIfInBounds_toArray, List.set_cons_zero, List.set_cons_succ]
            refine anyU_pure (i := 14) (v := ?ov14p) (by simp only [List.getElem?_toArray, List.getElem?_cons_succ, List.getElem?_cons_zero]; exact rfl) (by kernel_rfl) (by kernel_rfl) (fun _ _ _ h => h) (fun _ => by with_reducible exact HS.out) (by kernel_rfl) (by kernel_rfl) (Or.inl ⟨by rfl, ?oy14p⟩) ?or14p
            case oy14p => (intro w hSw; go_simp; try with_reducible rfl)
            try simp only [Act.put, List.setIfInBounds_toArray, List.set_cons_zero, List.set_cons_succ]
            refine anyU_pure (i := 15) (v := ?ov15p) (by simp only [List.getElem?_toArray, List.getElem?_cons_succ, List.getElem?_cons_zero]; exact rfl) (by kernel_rfl) (by kernel_rfl) (fun _ _ _ h => h) (fun _ => by with_reducible exact HS.out) (by kernel_rfl) (by kernel_rfl) (Or.inl ⟨by rfl, ?oy15p⟩) ?or15p
            case oy15p => (intro w hSw; go_simp; try with_reducible rfl)
            try simp only [Act.put, List.setIfInBounds_toArray, List.set_cons_zero, List.set_cons_succ]
            refine anyU_take2 (i := 16) (v := ?ov16p) (by simp only [List.getElem?_toArray, List.getElem?_cons_succ, List.getElem?_cons_zero]; exact rfl) (by kernel_rfl) 12 (by kernel_rfl) (by kernel_rfl) (fun _ _ _ h => h) (by kernel_rfl) (by kernel_rfl) (by kernel_rfl) (by kernel_rfl) (Or.inl ⟨by rfl, ?oy16p⟩) (by with_reducible exact HS.out) ?or16p
            case oy16p => (intro w' hSw; have x0 := show w'.cell? ⟨g, 1, none⟩ = some (.slice (some ⟨gC, 0, none⟩) n b) from Row.cell hSw.1.row 1; go_simp; try with_reducible rfl)
            try simp only [Act.put, List.setIfInBounds_toArray, List.set_cons_zero, List.set_cons_succ]
            refine anyU_pure (i := 17) (v := ?ov17p) (by simp only [List.getElem?_toArray, List.getElem?_cons_succ, List.getElem?_cons_zero]; exact rfl) (by kernel_rfl) (by kernel_rfl) (fun _ _ _ h => h) (fun _ => by with_reducible exact HS.out) (by kernel_rfl) (by kernel_rfl) (Or.inl ⟨by rfl, ?oy17p⟩) ?or17p
            case oy17p => (intro w hSw; go_simp; try with_reducible rfl)
            try simp only [Act.put, List.setIfInBounds_toArray, List.set_cons_zero, List.set_cons_succ]
            refine anyU_pure (i := 18) (v := ?ov18p) (by simp only [List.getElem?_toArray, List.getElem?_cons_succ, List.getElem?_cons_zero]; exact rfl) (by kernel_rfl) (by kernel_rfl) (fun _ _ _ h => h) (fun _ => by with_reducible exact HS.out) (by kernel_rfl) (by kernel_rfl) (Or.inl ⟨by rfl, ?oy18p⟩) ?or18p
            case oy18p => (intro w hSw; go_simp; try with_reducible rfl)
            try simp only [Act.put, List.setIfInBounds_toArray, List.set_cons_zero, List.set_cons_succ]
            refine anyU_take2 (i := 19) (v := ?ov19p) (by simp only [List.getElem?_toArray, List.getElem?_cons_succ, List.getElem?_cons_zero]; exact rfl) (by kernel_rfl) 12 (by kernel_rfl) (by kernel_rfl) (fun _ _ _ h => h) (by kernel_rfl) (by kernel_rfl) (by kernel_rfl) (by kernel_rfl) (Or.inl ⟨by rfl, ?oy19p⟩) (by with_reducible exact HS.out) ?or19p
            case oy19p => (intro w' hSw; obtain ⟨-, ⟨c0, c1, c2, c3, c4, c5, c6⟩, -⟩ := (Rx.here hSw.1 HAT.out); go_simp; try with_reducible rfl)
            try simp only [Act.put, List.setIfInBounds_toArray, List.set_cons_zero, List.set_cons_succ]
            refine anyU_pure (i := 22) (v := ?ov22p) (by simp only [List.getElem?_toArray, List.getElem?_cons_succ, List.getElem?_cons_zero]; exact rfl) (by kernel_rfl) (by kernel_rfl) (fun _ _ _ h => h) (fun _ => by with_reducible exact HS.out) (by kernel_rfl) (by kernel_rfl) (Or.inl ⟨by rfl, ?oy22p⟩) ?or22p
            case oy22p => (intro w hSw; go_simp; try with_reducible rfl)
            try simp only [Act.put, List.setIfInBounds_toArray, List.set_cons_zero, List.set_cons_succ]
            refine anyU_take2 (i := 23) (v := ?ov23p) (by simp only [List.getElem?_toArray, List.getElem?_cons_succ, List.getElem?_cons_zero]; exact rfl) (by kernel_rfl) 12 (by kernel_rfl) (by kernel_rfl) (fun _ _ _ h => h) (by kernel_rfl) (by kernel_rfl) (by kernel_rfl) (by kernel_rfl) (Or.inl ⟨by rfl, ?oy23p⟩) (by with_reducible exact HS.out) ?or23p
            case oy23p => (intro w' hSw; have x0 := show w'.cell? ⟨w.heap.size + 1, 2, none⟩ = some (.slice C2 m c2) from Row.cell hSw.2 2; go_simp; try with_reducible rfl)
            try simp only [Act.put, List.setIfInBounds_toArray, List.set_cons_zero, List.set_cons_succ]
            refine anyU_pure (i := 24) (v := ?ov24p) (by simp only [List.getElem?_toArray, List.getElem?_cons_succ, List.getElem?_cons_zero]; exact rfl) (by kernel_rfl) (by kernel_rfl) (fun _ _ _ h => h) (fun _ => by with_reducible exact HS.out) (by kernel_rfl) (by kernel_rfl) (Or.inl ⟨by rfl, ?oy24p⟩) ?or24p
            case oy24p => (intro w hSw; go_simp; try with_reducible rfl)
            try simp only [Act.put, List.setIfInBounds_toArray, List.set_cons_zero, List.set_cons_succ]
            refine anyU_pure (i := 25) (v := ?ov25p) (by simp only [List.getElem?_toArray, List.getElem?_cons_succ, List.getElem?_cons_zero]; exact rfl) (by kernel_rfl) (by kernel_rfl) (fun _ _ _ h => h) (fun _ => by with_reducible exact HS.out) (by kernel_rfl) (by kernel_rfl) (Or.inl ⟨by rfl, ?oy25p⟩) ?or25p
            case oy25p => (intro w hSw; go_simp; try with_reducible rfl)
            try simp only [Act.put, List.setIfInBounds_toArray, List.set_cons_zero, List.set_cons_succ]
            refine anyU_pure (i := 26) (v := ?ov26p) (by simp only [List.getElem?_toArray, List.getElem?_cons_succ, List.getElem?_cons_zero]; exact rfl) (by kernel_rfl) (by kernel_rfl) (fun _ _ _ h => h) (fun _ => by with_reducible exact HS.out) (by kernel_rfl) (by kernel_rfl) (Or.inl ⟨by rfl, ?oy26p⟩) ?or26p
            case oy26p => (intro w hSw; go_simp; try with_reducible rfl)
            try simp only [Act.put, List.setIfInBounds_toArray, List.set_cons_zero, List.set_cons_succ]
            refine anyU_take2 (i := 27) (v := ?ov27p) (by simp only [List.getElem?_toArray, List.getElem?_cons_succ, List.getElem?_cons_zero]; exact rfl) (by kernel_rfl) 12 (by kernel_rfl) (by kernel_rfl) (fun _ _ _ h => h) (by kernel_rfl) (by kernel_rfl) (by kernel_rfl) (by kernel_rfl) (Or.inl ⟨by rfl, ?oy27p⟩) (by with_reducible exact HS.out) ?or27p
            case oy27p => (intro w' hSw; have x0 := show w'.cell? ⟨g, 2, none⟩ = some (.slice (some ⟨gS, 0, none⟩) n cc) from Row.cell hSw.1.row 2; go_simp; try with_reducible rfl)
            try simp only [Act.put, List.setIfInBounds_toArray, List.set_cons_zero, List.set_cons_succ]
            refine anyU_pure (i := 28) (v := ?ov28p) (by simp only [List.getElem?_toArray, List.getElem?_cons_succ, List.getElem?_cons_zero]; exact rfl) (by kernel_rfl) (by kernel_rfl) (fun _ _ _ h => h) (fun _ => by with_reducible exact HS.out) (by kernel_rfl) (by kernel_rfl) (Or.inl ⟨by rfl, ?oy28p⟩) ?or28p
            case oy28p => (intro w hSw; go_simp; try with_reducible rfl)
            try simp only [Act.put, List.setIfInBounds_toArray, List.set_cons_zero, List.set_cons_succ]
            refine anyU_pure (i := 29) (v := ?ov29p) (by simp only [List.getElem?_toArray, List.getElem?_cons_succ, List.getElem?_cons_zero]; exact rfl) (by kernel_rfl) (by kernel_rfl) (fun _ _ _ h => h) (fun _ => by with_reducible exact HS.out) (by kernel_rfl) (by kernel_rfl) (Or.inl ⟨by rfl, ?oy29p⟩) ?or29p
            case oy29p => (intro w hSw; go_simp; try with_reducible rfl)
            try simp only [Act.put, List.setIfInBounds_toArray, List.set_cons_zero, List.set_cons_succ]
            refine anyU_take2 (i := 30) (v := ?ov30p) (by simp only [List.getElem?_toArray, List.getElem?_cons_succ, List.getElem?_cons_zero]; exact rfl) (by kernel_rfl) 12 (by kernel_rfl) (by kernel_rfl) (fun _ _ _ h => h) (by kernel_rfl) (by kernel_rfl) (by kernel_rfl) (by kernel_rfl) (Or.inl ⟨by rfl, ?oy30p⟩) (by with_reducible exact HS.out) ?or30p
            case oy30p => (intro w' hSw; obtain ⟨-, -, i0⟩ := (Rx.here hSw.1 HAT.out); go_simp; try with_reducible rfl)
            try simp only [Act.put, List.setIfInBounds_toArray, List.set_cons_zero, List.set_cons_succ]
            refine anyU_ahead (i := 33) (v := ?ov33p) (by simp only [List.getElem?_toArray, List.getElem?_cons_succ, List.getElem?_cons_zero]; exact rfl) (by kernel_rfl) (by kernel_rfl) (by kernel_rfl) (fun _ _ _ h => h) (fun _ => by with_reducible exact HS.out) (by kernel_rfl) (by kernel_rfl) (by kernel_rfl) (Or.inl ⟨by rfl, ?oy33p⟩) ?or33p
            case oy33p => (intro w hSw; go_simp; try with_reducible rfl)
            try simp only [Act.put, List.setIfInBounds_toArray, List.set_cons_zero, List.set_cons_succ]
            change anyU _ _ _ _ _ 34 (5 + 6) _ _ _
            have h1 : Ap (.slice A2 m a2) (.slice B2 m b2) := rw_ap HP.out.ry.rl HP.out.ry.rc (by decide)
            have h2 : Ap (.slice A2 m a2) (.slice C2 m c2) := rw_ap HP.out.ry.rl HP.out.ry.rs (by decide)
            have h3 : Ap (.slice B2 m b2) (.slice C2 m c2) := rw_ap HP.out.ry.rc HP.out.ry.rs (by decide)
            have l1 : (isV p).length + 1 ≤ 1001 := by rw [isV_len, HM.out]; omega
            have l2 : (csV p).length + 1 ≤ 1001 := by rw [csV_len, HM.out]; omega
            have l3 : (qsV p).length + 1 ≤ 1001 := by rw [qsV_len, HM.out]; omega
            have HS2 := hide (show ∀ w', Kp3 (Value.slice A2 m a2).ownBlock (Value.slice B2 m b2).ownBlock (Value.slice C2 m c2).ownBlock wd w' → Rx base w' g (.slice (some ⟨gL, 0, none⟩) n a) (.slice (some ⟨gC, 0, none⟩) n b) (.slice (some ⟨gS, 0, none⟩) n cc) x ∧ Row w' (w.heap.size + 1) 46 (ixC (.slice A2 m a2) (.slice B2 m b2) (.slice C2 m c2) D) from fun w' hk => HP.out.part HX.out hk)
            refine chainsU3o_go (c1 := ⟨67, 68, 26, 2, isV p, [.int .i64 e.r, .int .i64 e.s], .slice A2 m a2⟩) (c2 := ⟨78, 79, 29, 7, csV p, e.c.l, .slice B2 m b2⟩) (c3 := ⟨89, 90, 3, 1, qsV p, [.int .i64 e.q], .slice C2 m c2⟩) (base := w.heap.size) (ou1 := .tmp 66) (os1 := .tmp 59) (ou2 := .tmp 77) (os2 := .tmp 70) (ou3 := .tmp 88) (os3 := .tmp 81) (b1 := 9) (a1 := 10) (b2 := 20) (a2 := 21) (b3 := 31) (a3 := 32)
              (op2m_of elm_inst (by decide) rfl (fun u hu => by simp at hu; rcases hu with rfl | rfl <;> rfl) (lit_inst e.r e.s) (by simp only [List.getElem?_toArray, List.getElem?_cons_succ, List.getElem?_cons_zero]; exact rfl) rfl rfl rfl (by simp only [List.getElem?_toArray, List.getElem?_cons_succ, List.getElem?_cons_zero]; exact rfl) rfl rfl rfl l1)
              (op2m_of elm_cmd (by decide) rfl (c_l_cells e.c) (lit_cmd e.c) (by simp only [List.getElem?_toArray, List.getElem?_cons_succ, List.getElem?_cons_zero]; exact rfl) rfl rfl rfl (by simp only [List.getElem?_toArray, List.getElem?_cons_succ, List.getElem?_cons_zero]; exact rfl) rfl rfl rfl l2)
              (op2m_of elm_int (by decide) rfl (fun u hu => by simp at hu; subst hu; rfl) (lit_int e.q) (by simp only [List.getElem?_toArray, List.getElem?_cons_succ, List.getElem?_cons_zero]; exact rfl) rfl rfl rfl (by simp only [List.getElem?_toArray, List.getElem?_cons_succ, List.getElem?_cons_zero]; exact rfl) rfl rfl rfl l3)
              (by kernel_rfl) (by decide) (show [67, 68, 78, 79, 89, 90].Nodup by decide) (by simp) rfl rfl rfl rfl rfl rfl (show 67 < _ from Nat.le_of_ble_eq_true (by kernel_rfl)) (show 78 < _ from Nat.le_of_ble_eq_true (by kernel_rfl)) (show 89 < _ from Nat.le_of_ble_eq_true (by kernel_rfl)) HP.out.ry.rl HP.out.ry.rc HP.out.ry.rs h1 h2 h3 HP.out.low.size (fun w' hk => HS2.out w' hk) (fun p1 y1 p2 y2 p3 y3 wz hr1 hr2 hr3 hp1 hp2 hp3 hkp => ?_)
            have HSZ := hide (HS2.out wz hkp)
            have hr1 : Rw w.heap.size 26 2 wz y1 (isV (p ++ [e])) := by rw [isV_app]; exact hr1
            have hr2 : Rw w.heap.size 29 7 wz y2 (csV (p ++ [e])) := by rw [csV_app]; exact hr2
            have hr3 : Rw w.heap.size 3 1 wz y3 (qsV (p ++ [e])) := by rw [qsV_app]; exact hr3
            have HFX := hide (Rx.put3 (x := ⟨p, D⟩) HSZ.out.2 hr1 hr2 hr3 HP.out.ry.d7)
            have z0 : wz.cell? ⟨w.heap.size + 1, 0, none⟩ = some (.slice A2 m a2) := HSZ.out.2.cell 0
            have z1 : (wz.setCell ⟨w.heap.size + 1, 0, none⟩ y1).cell? ⟨w.heap.size + 1, 1, none⟩ = some (.slice B2 m b2) := (HSZ.out.2.put 0 _).cell 1
            have z2 : ((wz.setCell ⟨w.heap.size + 1, 0, none⟩ y1).setCell ⟨w.heap.size + 1, 1, none⟩ y2).cell? ⟨w.heap.size + 1, 2, none⟩ = some (.slice C2 m c2) := ((HSZ.out.2.put 0 _).put 1 _).cell 2
            have q0 := HSZ.out.2.free 0
            have q1 : World.frozen? (wz.setCell ⟨w.heap.size + 1, 0, none⟩ y1) ⟨w.heap.size + 1, 1, none⟩ = false := (HSZ.out.2.put 0 _).free 1
            have q2 : World.frozen? ((wz.setCell ⟨w.heap.size + 1, 0, none⟩ y1).setCell ⟨w.heap.size + 1, 1, none⟩ y2) ⟨w.heap.size + 1, 2, none⟩ = false := ((HSZ.out.2.put 0 _).put 1 _).free 2
            obtain ⟨A3, a3, hy1, -, -, -, -⟩ := own_form hr1
            obtain ⟨B3, b3, hy2, -, -, -, -⟩ := own_form hr2
            obtain ⟨C3, c3, hy3, -, -, -, -⟩ := own_form hr3
            generalize (isV (p ++ [e])).length = m1 at hy1
            generalize (csV (p ++ [e])).length = m2 at hy2
            generalize (qsV (p ++ [e])).length = m3 at hy3
            have HKP := hide hkp
            clear hkp hr1 hr2 hr3 hp1 hp2 hp3 h1 h2 h3 l1 l2 l3 HS2
            subst hy1 hy2 hy3
            try simp only [Act.put, List.setIfInBounds_toArray, List.set_cons_zero, List.set_cons_succ]
            refine anyU_one (i := 34) (by kernel_rfl) (by simp only [List.getElem?_toArray, List.getElem?_cons_succ, List.getElem?_cons_zero]; exact rfl) (fun K hK => ?_)
            try go_simp
            refine hK.out _ _ (fun e _ => absurd rfl e) ?_
            clear hK K
            try simp only [Act.put, List.setIfInBounds_toArray, List.set_cons_zero, List.set_cons_succ]
            generalize wz.setCell ⟨w.heap.size + 1, 0, none⟩ _ = v1 at HFX z1 z2 q1 q2 ⊢
            refine anyU_one (i := 35) (by kernel_rfl) (by simp only [List.getElem?_toArray, List.getElem?_cons_succ, List.getElem?_cons_zero]; exact rfl) (fun K hK => ?_)
            try go_simp
            refine hK.out _ _ (fun _ l => absurd (l.symm.trans (show _ = true by kernel_rfl)) (by decide)) ?_
            clear hK K
            try simp only [Act.put, List.setIfInBounds_toArray, List.set_cons_zero, List.set_cons_succ]
            refine anyU_one (i := 36) (by kernel_rfl) (by simp only [List.getElem?_toArray, List.getElem?_cons_succ, List.getElem?_cons_zero]; exact rfl) (fun K hK => ?_)
            try go_simp
            refine hK.out _ _ (fun _ l => absurd (l.symm.trans (show _ = true by kernel_rfl)) (by decide)) ?_
            clear hK K
            try simp only [Act.put, List.setIfInBounds_toArray, List.set_cons_zero, List.set_cons_succ]
            generalize v1.setCell ⟨w.heap.size + 1, 1, none⟩ _ = v2 at HFX z2 q2 ⊢
            refine anyU_one (i := 37) (by kernel_rfl) (by simp only [List.getElem?_toArray, List.getElem?_cons_succ, List.getElem?_cons_zero]; exact rfl) (fun K hK => ?_)
            try go_simp
            refine hK.out _ _ (fun _ l => absurd (l.symm.trans (show _ = true by kernel_rfl)) (by decide)) ?_
            clear hK K
            try simp only [Act.put, List.setIfInBounds_toArray, List.set_cons_zero, List.set_cons_succ]
            refine anyU_one (i := 38) (by kernel_rfl) (by simp only [List.getElem?_toArray, List.getElem?_cons_succ, List.getElem?_cons_zero]; exact rfl) (fun K hK => ?_)
            try go_simp
            refine hK.out _ _ (fun _ l => absurd (l.symm.trans (show _ = true by kernel_rfl)) (by decide)) ?_
            clear hK K
            try simp only [Act.put, List.setIfInBounds_toArray, List.set_cons_zero, List.set_cons_succ]
            generalize v2.setCell ⟨w.heap.size + 1, 2, none⟩ _ = v3 at HFX ⊢
            refine anyU_done (by kernel_rfl) ?_
            refine NoPanic.normal ?_
            try simp only [Act.put]
            have HFIN := hide (HP.out.grow HX.out HKP.out HFX.out.2 HFX.out.1)
            clear HFX HKP HSZ HP
            go_wp2
            go_roundw
            case rel => exact ⟨j + 1, by omega, by go_num, _, _, _, hide (by rw [HTK.out, show [e].filter (overB D) = [e] by simp [HT.out], HPP.out]; exact HFIN.out)⟩
            case measure => simp [intOf]; omega
        · obtain rfl : j = n := by omega
          have hnl : ¬ ((j : Int) < (j : Int)) := by omega
          rw [List.take_of_length_le (by rw [HNN.out]; exact Nat.le_refl _)] at HR
          obtain ⟨e0, e1, e2, e3, e4, e5, e6, he⟩ := len7 (show D.length = 7 by rw [← HDD.out]; exact len_map7 _)
          obtain ⟨A2, a2, rfl, _, _, _, _⟩ := own_form HR.out.ry.rl
          obtain ⟨B2, b2, rfl, _, _, _, _⟩ := own_form HR.out.ry.rc
          obtain ⟨C2, c2, rfl, _, _, _, _⟩ := own_form HR.out.ry.rs
          generalize (isV _).length = m1 at HR
          generalize (csV _).length = m2 at HR
          generalize (qsV _).length = m3 at HR
          have HE := hide he
          subst he
          have hdd := HD.out
          have HG := hide (show Row wr g 46 (ixC (.slice A j a) (.slice B j b) (.slice C j cc) [d0, d1, d2, d3, d4, d5, d6]) from hdd ▸ HR.out.rx.row)
          clear hdd x0
          have s0 : wr.cell? ⟨w.heap.size + 1, 0, none⟩ = some (.slice A2 m1 a2) := HR.out.ry.row.cell 0
          have t0 : wr.cell? ⟨g, 0, none⟩ = some (.slice A j a) := HG.out.cell 0
          have f0 := HG.out.free 0
          have s1 : wr.cell? ⟨w.heap.size + 1, 1, none⟩ = some (.slice B2 m2 b2) := HR.out.ry.row.cell 1
          have t1 : wr.cell? ⟨g, 1, none⟩ = some (.slice B j b) := HG.out.cell 1
          have f1 := HG.out.free 1
          have s2 : wr.cell? ⟨w.heap.size + 1, 2, none⟩ = some (.slice C2 m3 c2) := HR.out.ry.row.cell 2
          have t2 : wr.cell? ⟨g, 2, none⟩ = some (.slice C j cc) := HG.out.cell 2
          have f2 := HG.out.free 2
          have s3 : wr.cell? ⟨w.heap.size + 1, 3, none⟩ = some (.int .i64 e0) := HR.out.ry.row.cell 3
          have t3 : wr.cell? ⟨g, 3, none⟩ = some (.int .i64 d0) := HG.out.cell 3
          have f3 := HG.out.free 3
          have s4 : wr.cell? ⟨w.heap.size + 1, 4, none⟩ = some (.int .i64 e1) := HR.out.ry.row.cell 4
          have t4 : wr.cell? ⟨g, 4, none⟩ = some (.int .i64 d1) := HG.out.cell 4
          have f4 := HG.out.free 4
          have s5 : wr.cell? ⟨w.heap.size + 1, 5, none⟩ = some (.int .i64 e2) := HR.out.ry.row.cell 5
          have t5 : wr.cell? ⟨g, 5, none⟩ = some (.int .i64 d2) := HG.out.cell 5
          have f5 := HG.out.free 5
          have s6 : wr.cell? ⟨w.heap.size + 1, 6, none⟩ = some (.int .i64 e3) := HR.out.ry.row.cell 6
          have t6 : wr.cell? ⟨g, 6, none⟩ = some (.int .i64 d3) := HG.out.cell 6
          have f6 := HG.out.free 6
          have s7 : wr.cell? ⟨w.heap.size + 1, 7, none⟩ = some (.int .i64 e4) := HR.out.ry.row.cell 7
          have t7 : wr.cell? ⟨g, 7, none⟩ = some (.int .i64 d4) := HG.out.cell 7
          have f7 := HG.out.free 7
          have s8 : wr.cell? ⟨w.heap.size + 1, 8, none⟩ = some (.int .i64 e5) := HR.out.ry.row.cell 8
          have t8 : wr.cell? ⟨g, 8, none⟩ = some (.int .i64 d5) := HG.out.cell 8
          have f8 := HG.out.free 8
          have s9 : wr.cell? ⟨w.heap.size + 1, 9, none⟩ = some (.int .i64 e6) := HR.out.ry.row.cell 9
          have t9 : wr.cell? ⟨g, 9, none⟩ = some (.int .i64 d6) := HG.out.cell 9
          have f9 := HG.out.free 9
          have x0 : wr.cell? ⟨g, 0, none⟩ = some (.slice A j a) := t0
          clear x0
          clear HE
          go_wp2
          refine bodyPost_end (results_none rfl _ _ _) rfl ?_
          obtain ⟨hfx, hfg⟩ := Rx.become HG.out HR.out.ry rfl
          refine ⟨rfl, ⟨.slice A2 m1 a2, .slice B2 m2 b2, .slice C2 m3 c2, ?_⟩, ?_⟩
          · have e : pruneX x [u0, u1, u2, u3, u4, u5, u6] = ⟨x.k.filter (overB [e0, e1, e2, e3, e4, e5, e6]), [e0, e1, e2, e3, e4, e5, e6]⟩ := by rw [HU.out]; unfold pruneX; rw [show upD x.d u = [e0, e1, e2, e3, e4, e5, e6] from HDD.out]
            rw [e]
            exact hfx.low HB.out
          · exact (Kq.of_below HR.out.low).trans (Kq.grown (o := rxO g (.slice A j a) (.slice B j b) (.slice C j cc)) hfg (fun k e => .inl (by cases e; rfl))) (fun k _ h => h)
end Go.Proofs.Ytfihcgimgngmhaa
