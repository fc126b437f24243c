/- sort's order2_func, median_func, medianAdjacent_func, choosePivot_func over instances. Conditions: the row lies in memory; places are within it. -/
import Derived.Test.YtiaegloipnhhdaaGreatQu
import Derived.LoopTactic
namespace Go.Proofs.YtiaegloipnhhdaaGreat
set_option maxRecDepth 100000
open Go.RowKit Go.Maps Go.Shelf Go.Sort Go.Lib
/-- What the pivot's calls leave: the row as it was, the count of swaps. -/
structure Oq (W w0 w : World) (blk : Nat) (d : Array (Int × Int)) (q s : Nat) : Prop where
  sw : Sw W blk d w
  row : Row w q 3 #[.int .i64 s]
  kq : Kq (fun k => k = q) w0 w
structure Om (W w0 w : World) (blk : Nat) (d : Array (Int × Int)) (q s bd Bs : Nat) (sb : Array Value) : Prop where
  sw : Sw W blk d w
  row : Row w q 3 #[.int .i64 s]
  kq : Kq (fun k => k = q) w0 w
  bx : Row w bd 117 #[.func (.func 34) #[] #[.pointer (some ⟨Bs, 0, none⟩)], .func (.func 107) #[] sb]
  hq : W.heap.size ≤ q
section
variable {W w0 w w' : World} {blk q s s' bd Bs : Nat} {d : Array (Int × Int)} {sb : Array Value}
theorem Om.below (h : Om W w0 w blk d q s bd Bs sb) (hb : RowKit.Below w.heap.size w w') (hl : blk < W.heap.size) : Om W w0 w' blk d q s bd Bs sb := ⟨h.sw.below hb hl, h.row.below hb h.row.lt, h.kq.trans (Kq.of_below (o := fun k => k = q) hb) (fun _ _ e => e), h.bx.below hb h.bx.lt, h.hq⟩
theorem Om.oq (h : Om W w0 w blk d q s bd Bs sb) : Oq W w0 w blk d q s := ⟨h.sw, h.row, h.kq⟩
theorem Om.turn (h : Om W w0 w blk d q s bd Bs sb) (k : Oq W w w' blk d q s') (hn : q ≠ bd) : Om W w0 w' blk d q s' bd Bs sb := ⟨k.sw, k.row, h.kq.trans k.kq (fun _ _ e => e), k.kq.row h.bx (fun e => hn e.symm), h.hq⟩
theorem Sw.off (h : Sw W blk d w) (hl : blk < W.heap.size) (hq : W.heap.size ≤ q) (u : Value) (i : Nat) : Sw W blk d (w.setCell ⟨q, i, none⟩ u) := by
  have hg := grown_put (grown_refl w (some q)) i u
  refine ⟨fun t ht => ?_, ?_, h.sh.trans (Shp.eq (hg.block blk (Nat.lt_of_lt_of_le hl h.kq.size) (fun e => by injection e with e; omega)))⟩
  · have h1 := h.h t ht
    have e : (w.setCell ⟨q, i, none⟩ u).heap[blk]? = w.heap[blk]? := hg.block blk (Nat.lt_of_lt_of_le hl h.kq.size) (fun e => by injection e with e; omega)
    exact ⟨by simp only [World.cell?, e]; exact h1.1, by simp only [World.frozen?, e]; exact h1.2⟩
  · exact ⟨hg.os.trans h.kq.os, hg.tape.trans h.kq.tape, hg.output.trans h.kq.output, Nat.le_trans h.kq.size hg.size, fun k hk hno => by
      rw [← h.kq.block k hk hno]
      exact hg.block k (Nat.lt_of_lt_of_le hk h.kq.size) (fun e => by injection e with e; omega)⟩
theorem Om.put (h : Om W w0 w blk d q s bd Bs sb) (hl : blk < W.heap.size) (hn : q ≠ bd) : Om W w0 (w.setCell ⟨q, 0, none⟩ (.int .i64 s')) blk d q s' bd Bs sb := by
  have hg := grown_put (grown_refl w (some q)) 0 (.int .i64 s')
  exact ⟨h.sw.off hl h.hq _ _, h.row.put 0 _, h.kq.trans (Kq.grown (o := fun k => k = q) hg (fun b e => by injection e with e; exact e.symm)) (fun _ _ e => e), h.bx.grown hg (fun e => by injection e with e; exact hn e.symm), h.hq⟩
end
section
variable {W w : World} {blk Bs n : Nat} {d : Array (Int × Int)} {sb : Array Value}
set_option maxHeartbeats 8000000 in
theorem porder_any (C : Cx W blk Bs n sb) (S : Sw W blk d w) (hd : d.size = n) {q s : Nat} (hq : Row w q 3 #[.int .i64 s]) (hqW : W.heap.size ≤ q) (hs : s ≤ 100) {a b : Nat} (ha : a < n) (hb : b < n) :
    Calls Tryz.prog 137 #[.agg #[.func (.func 34) #[] #[.pointer (some ⟨Bs, 0, none⟩)], .func (.func 107) #[] sb], .int .i64 a, .int .i64 b, .pointer (some ⟨q, 0, none⟩)] w fun e w' => e = .returned (.tuple #[.int .i64 (order2 ltP d a b s).1, .int .i64 (order2 ltP d a b s).2.1]) ∧ Oq W w w' blk d q (order2 ltP d a b s).2.2 := by
  have HS := hide (show Om W w (w.alloc (.cells #[.func (.func 34) #[] #[.pointer (some ⟨Bs, 0, none⟩)], .func (.func 107) #[] sb] 117)) blk d q s w.heap.size Bs sb from ⟨S.below (kept_alloc (kept_refl w) _) C.hb, hq.alloc _, .of_below (kept_alloc (kept_refl w) _), Row.new w _ _, hqW⟩)
  have hn := C.hn
  have hqw : q ≠ w.heap.size := by have := hq.lt; omega
  have HL := hide (fun (w' : World) (h : Sw W blk d w') (i j : Nat) (hi : i < n) (hj : j < n) => less_any C h hd hi hj)
  have HB := hide C.hb
  clear S C hq
  go_enter Tryz.func137, Tryz.ntmps137
  go_upto_region 1 with (fail)
  generalize w.alloc (.cells #[.func (.func 34) #[] #[.pointer (some ⟨Bs, 0, none⟩)], .func (.func 107) #[] sb] 117) = w1 at HS ⊢
  generalize w.heap.size = bd at HS hqw ⊢
  have c0 := HS.out.bx.cell 0
  have hl := HL.out w1 HS.out.sw b a hb ha
  cases hlv : ltP d[b]! d[a]! with
  | true =>
    have e : order2 ltP d a b s = (b, a, s + 1) := by unfold order2; rw [if_pos hlv]
    rw [hlv] at hl
    have HLL := hide hl
    have HE := hide e
    clear hl hlv e
    go_upto_region 2 with (go_at_call 34; (with_reducible refine HLL.out.mono ?_); rintro e w2 ⟨rfl, hb2⟩; replace HS := hide (HS.out.below hb2 HB.out); clear hb2 c0)
    have q0 := HS.out.row.cell 0
    have f0 := HS.out.row.free 0
    have hs2 := HS.out.put (s' := s + 1) HB.out hqw
    rw [show ((s + 1 : Nat) : Int) = (s : Int) + 1 by omega] at hs2
    have HS2 := hide hs2
    clear hs2
    clear HS
    go_wp2
    refine bodyPost_ret (results_tmp2 rfl _ _ _) rfl ?_
    rw [HE.out]
    exact ⟨rfl, HS2.out.oq⟩
  | false =>
    have e : order2 ltP d a b s = (a, b, s) := by unfold order2; rw [hlv]; rfl
    rw [hlv] at hl
    have HLL := hide hl
    have HE := hide e
    clear hl hlv e
    go_wp2_with (go_at_call 34; (with_reducible refine HLL.out.mono ?_); rintro e w2 ⟨rfl, hb2⟩; replace HS := hide (HS.out.below hb2 HB.out); clear hb2 c0)
    refine bodyPost_ret (results_tmp2 rfl _ _ _) rfl ?_
    rw [HE.out]
    exact ⟨rfl, HS.out.oq⟩
theorem ord_lt (d : Array (Int × Int)) {a b s n : Nat} (ha : a < n) (hb : b < n) : (order2 ltP d a b s).1 < n ∧ (order2 ltP d a b s).2.1 < n ∧ (order2 ltP d a b s).2.2 ≤ s + 1 := by
  unfold order2
  split
  · exact ⟨hb, ha, Nat.le_refl _⟩
  · exact ⟨ha, hb, Nat.le_succ _⟩
theorem med_lt (d : Array (Int × Int)) {a b c s n : Nat} (ha : a < n) (hb : b < n) (hc : c < n) : (median ltP d a b c s).1 < n ∧ (median ltP d a b c s).2 ≤ s + 3 := by
  unfold median
  have h1 := ord_lt d (s := s) ha hb
  have h2 := ord_lt d (s := (order2 ltP d a b s).2.2) h1.2.1 hc
  have h3 := ord_lt d (s := (order2 ltP d (order2 ltP d a b s).2.1 c (order2 ltP d a b s).2.2).2.2) h1.1 h2.1
  exact ⟨h3.2.1, by have := h1.2.2; have := h2.2.2; have := h3.2.2; simp only; omega⟩
set_option maxHeartbeats 8000000 in
theorem pmedian_any (C : Cx W blk Bs n sb) (S : Sw W blk d w) (hd : d.size = n) {q s : Nat} (hq : Row w q 3 #[.int .i64 s]) (hqW : W.heap.size ≤ q) (hs : s ≤ 50) {a b c : Nat} (ha : a < n) (hb : b < n) (hc : c < n) :
    Calls Tryz.prog 133 #[.agg #[.func (.func 34) #[] #[.pointer (some ⟨Bs, 0, none⟩)], .func (.func 107) #[] sb], .int .i64 a, .int .i64 b, .int .i64 c, .pointer (some ⟨q, 0, none⟩)] w fun e w' => e = .returned (.int .i64 (median ltP d a b c s).1) ∧ Oq W w w' blk d q (median ltP d a b c s).2 := by
  have HF := hide (fun (w' : World) (h : Sw W blk d w') (s : Nat) (hs : s ≤ 100) (hq : Row w' q 3 #[.int .i64 s]) (a b : Nat) (ha : a < n) (hb : b < n) => porder_any C h hd hq hqW hs ha hb)
  have HS := hide (show Om W w (w.alloc (.cells #[.func (.func 34) #[] #[.pointer (some ⟨Bs, 0, none⟩)], .func (.func 107) #[] sb] 117)) blk d q s w.heap.size Bs sb from ⟨S.below (kept_alloc (kept_refl w) _) C.hb, hq.alloc _, .of_below (kept_alloc (kept_refl w) _), Row.new w _ _, hqW⟩)
  have hn := C.hn
  have hqw : q ≠ w.heap.size := by have := hq.lt; omega
  have HL := hide (fun (w' : World) (h : Sw W blk d w') (i j : Nat) (hi : i < n) (hj : j < n) => less_any C h hd hi hj)
  have HB := hide C.hb
  clear S C hq
  go_enter Tryz.func133, Tryz.ntmps133
  go_upto_region 1 with (fail)
  generalize w.alloc (.cells #[.func (.func 34) #[] #[.pointer (some ⟨Bs, 0, none⟩)], .func (.func 107) #[] sb] 117) = w1 at HS ⊢
  generalize w.heap.size = bd at HS hqw ⊢
  have h1 := ord_lt d (s := s) ha hb
  have hf1 := HF.out w1 HS.out.sw s (by omega) HS.out.row a b ha hb
  have HM := hide (show median ltP d a b c s = ((order2 ltP d (order2 ltP d a b s).1 (order2 ltP d (order2 ltP d a b s).2.1 c (order2 ltP d a b s).2.2).1 (order2 ltP d (order2 ltP d a b s).2.1 c (order2 ltP d a b s).2.2).2.2).2.1, (order2 ltP d (order2 ltP d a b s).1 (order2 ltP d (order2 ltP d a b s).2.1 c (order2 ltP d a b s).2.2).1 (order2 ltP d (order2 ltP d a b s).2.1 c (order2 ltP d a b s).2.2).2.2).2.2) from rfl)
  generalize order2 ltP d a b s = r1 at h1 hf1 HM
  obtain ⟨x1, y1, s1⟩ := r1
  dsimp only at h1 hf1 HM
  have HF1 := hide hf1
  have c0 := HS.out.bx.cell 0
  have c1 := HS.out.bx.cell 1
  clear hf1 HL
  go_upto_region 2 with (go_at_call 137; (with_reducible refine HF1.out.mono ?_); rintro e w2 ⟨rfl, ho⟩; replace HS := hide (HS.out.turn ho hqw); clear ho c0 c1; have c0 := HS.out.bx.cell 0; have c1 := HS.out.bx.cell 1)
  clear HF1
  have h2 := ord_lt d (s := s1) h1.2.1 hc
  have hf2 := HF.out w2 HS.out.sw s1 (by omega) HS.out.row y1 c h1.2.1 hc
  generalize order2 ltP d y1 c s1 = r2 at h2 hf2 HM
  obtain ⟨x2, y2, s2⟩ := r2
  dsimp only at h2 hf2 HM
  have HF2 := hide hf2
  clear hf2
  go_upto_region 3 with (go_at_call 137; (with_reducible refine HF2.out.mono ?_); rintro e w3 ⟨rfl, ho⟩; replace HS := hide (HS.out.turn ho hqw); clear ho c0 c1; have c0 := HS.out.bx.cell 0; have c1 := HS.out.bx.cell 1)
  clear HF2
  have hf3 := HF.out w3 HS.out.sw s2 (by omega) HS.out.row x1 x2 h1.1 h2.1
  generalize order2 ltP d x1 x2 s2 = r3 at hf3 HM
  obtain ⟨x3, y3, s3⟩ := r3
  dsimp only at hf3 HM
  have HF3 := hide hf3
  clear hf3
  go_wp2_with (go_at_call 137; (with_reducible refine HF3.out.mono ?_); rintro e w4 ⟨rfl, ho⟩; replace HS := hide (HS.out.turn ho hqw); clear ho c0 c1)
  go_ret
  rw [HM.out]
  exact ⟨rfl, HS.out.oq⟩
set_option maxHeartbeats 4000000 in
theorem padj_any (C : Cx W blk Bs n sb) (S : Sw W blk d w) (hd : d.size = n) {q s : Nat} (hq : Row w q 3 #[.int .i64 s]) (hqW : W.heap.size ≤ q) (hs : s ≤ 50) {a : Nat} (ha : 1 ≤ a) (ha2 : a + 1 < n) :
    Calls Tryz.prog 132 #[.agg #[.func (.func 34) #[] #[.pointer (some ⟨Bs, 0, none⟩)], .func (.func 107) #[] sb], .int .i64 a, .pointer (some ⟨q, 0, none⟩)] w fun e w' => e = .returned (.int .i64 (medianAdjacent ltP d a s).1) ∧ Oq W w w' blk d q (medianAdjacent ltP d a s).2 := by
  have HF := hide (fun (w' : World) (h : Sw W blk d w') (hq : Row w' q 3 #[.int .i64 s]) => pmedian_any C h hd hq hqW hs (a := a - 1) (b := a) (c := a + 1) (by omega) (by omega) ha2)
  have HS := hide (show Om W w (w.alloc (.cells #[.func (.func 34) #[] #[.pointer (some ⟨Bs, 0, none⟩)], .func (.func 107) #[] sb] 117)) blk d q s w.heap.size Bs sb from ⟨S.below (kept_alloc (kept_refl w) _) C.hb, hq.alloc _, .of_below (kept_alloc (kept_refl w) _), Row.new w _ _, hqW⟩)
  have hn := C.hn
  have hqw : q ≠ w.heap.size := by have := hq.lt; omega
  have HL := hide (fun (w' : World) (h : Sw W blk d w') (i j : Nat) (hi : i < n) (hj : j < n) => less_any C h hd hi hj)
  have HB := hide C.hb
  clear S C hq
  go_enter Tryz.func132, Tryz.ntmps132
  go_upto_region 1 with (fail)
  generalize w.alloc (.cells #[.func (.func 34) #[] #[.pointer (some ⟨Bs, 0, none⟩)], .func (.func 107) #[] sb] 117) = w1 at HS ⊢
  generalize w.heap.size = bd at HS hqw ⊢
  have hf := HF.out w1 HS.out.sw HS.out.row
  rw [show ((a - 1 : Nat) : Int) = (a : Int) - 1 by omega, show ((a + 1 : Nat) : Int) = (a : Int) + 1 by omega] at hf
  have HFF := hide hf
  have c0 := HS.out.bx.cell 0
  have c1 := HS.out.bx.cell 1
  clear hf HL
  go_wp2_with (go_at_call 133; (with_reducible refine HFF.out.mono ?_); rintro e w4 ⟨rfl, ho⟩; replace HS := hide (HS.out.turn ho hqw); clear ho c0 c1)
  go_ret
  exact ⟨rfl, HS.out.oq⟩
end
end Go.Proofs.YtiaegloipnhhdaaGreat
/- sort's choosePivot_func over instances, at eight places and more. Conditions: the row lies in memory; places are within it. -/
namespace Go.Proofs.YtiaegloipnhhdaaGreat
set_option maxRecDepth 100000
open Go.RowKit Go.Maps Go.Shelf Go.Sort Go.Lib
section
variable {W w : World} {blk Bs n : Nat} {d : Array (Int × Int)} {sb : Array Value}
def hintOf (r : Nat × Nat) : Nat × Hint := (r.1, if r.2 = 0 then .increasing else if r.2 = 12 then .decreasing else .unknown)
def hintV : Hint → Int
  | .unknown => 0
  | .increasing => 1
  | .decreasing => 2
theorem Om.start {w : World} {bd : Nat} (h : Sw W blk d w) (hl : blk < W.heap.size) (hb : Row w bd 117 #[.func (.func 34) #[] #[.pointer (some ⟨Bs, 0, none⟩)], .func (.func 107) #[] sb]) : Om W (w.alloc (.cells #[.int .i64 0] 3)) (w.alloc (.cells #[.int .i64 0] 3)) blk d w.heap.size 0 bd Bs sb :=
  ⟨h.below (kept_alloc (kept_refl w) _) hl, Row.new w _ _, Kq.refl _ _, hb.alloc _, h.kq.size⟩
theorem oq_below {W w w' : World} {q s : Nat} {V : World} (h : Oq W w w' blk d q s) (hb : RowKit.Below V.heap.size V w) (hq : V.heap.size ≤ q) : RowKit.Below V.heap.size V w' := h.kq.below hb hb.size (fun k hk e => by omega)
set_option maxHeartbeats 16000000 in
theorem ppivot_any (C : Cx W blk Bs n sb) (S : Sw W blk d w) (hd : d.size = n) {a b : Nat} (hab : a + 8 ≤ b) (hbn : b ≤ n) :
    Calls Tryz.prog 113 #[.agg #[.func (.func 34) #[] #[.pointer (some ⟨Bs, 0, none⟩)], .func (.func 107) #[] sb], .int .i64 a, .int .i64 b] w fun e w' => e = .returned (.tuple #[.int .i64 (choosePivot ltP d a b).1, .int .i64 (hintV (choosePivot ltP d a b).2)]) ∧ RowKit.Below w.heap.size w w' := by
  have HF := hide (fun (w' : World) (h : Sw W blk d w') (q s : Nat) (hs : s ≤ 50) (hqW : W.heap.size ≤ q) (hq : Row w' q 3 #[.int .i64 s]) (a b c : Nat) (ha : a < n) (hb : b < n) (hc : c < n) => pmedian_any C h hd hq hqW hs ha hb hc)
  have HA := hide (fun (w' : World) (h : Sw W blk d w') (q s : Nat) (hs : s ≤ 50) (hqW : W.heap.size ≤ q) (hq : Row w' q 3 #[.int .i64 s]) (a : Nat) (ha : 1 ≤ a) (ha2 : a + 1 < n) => padj_any C h hd hq hqW hs ha ha2)
  have hb1 := kept_alloc (kept_refl w) (.cells #[.func (.func 34) #[] #[.pointer (some ⟨Bs, 0, none⟩)], .func (.func 107) #[] sb] 117)
  have S1 := S.below hb1 C.hb
  have HS := hide (Om.start S1 C.hb (Row.new w 117 #[.func (.func 34) #[] #[.pointer (some ⟨Bs, 0, none⟩)], .func (.func 107) #[] sb]))
  have HBW := hide (kept_alloc hb1 (.cells #[.int .i64 0] 3))
  have hs1 : (w.alloc (.cells #[.func (.func 34) #[] #[.pointer (some ⟨Bs, 0, none⟩)], .func (.func 107) #[] sb] 117)).heap.size = w.heap.size + 1 := by simp
  rw [hs1] at HS
  have hqW : W.heap.size ≤ w.heap.size + 1 := by have := S.kq.size; omega
  have hqw : w.heap.size + 1 ≠ w.heap.size := by omega
  have hn := C.hn
  have HQW := hide (show w.heap.size ≤ w.heap.size + 1 by omega)
  obtain ⟨l, hl⟩ : ∃ l : Nat, b = a + l := ⟨b - a, by omega⟩
  have e2 : (b : Int) - (a : Int) = (l : Int) := by omega
  have e4 : (l : Int).tdiv 4 = ((l / 4 : Nat) : Int) := by
    rw [Int.tdiv_eq_ediv_of_nonneg (by omega)]
    omega
  have h8 : 8 ≤ l := by omega
  have hln : a + l ≤ n := by omega
  have h8i : (l : Int) ≥ 8 := by omega
  obtain ⟨i, hi⟩ : ∃ i : Nat, a + l / 4 = i := ⟨_, rfl⟩
  obtain ⟨j, hj⟩ : ∃ j : Nat, a + l / 4 * 2 = j := ⟨_, rfl⟩
  obtain ⟨k, hk⟩ : ∃ k : Nat, a + l / 4 * 3 = k := ⟨_, rfl⟩
  have ei : (a : Int) + (l : Int) / 4 = (i : Int) := by omega
  have ej : (a : Int) + (l : Int) / 4 * 2 = (j : Int) := by omega
  have ek : (a : Int) + (l : Int) / 4 * 3 = (k : Int) := by omega
  have hi1 : 1 ≤ i := by omega
  have hij : i + 1 < n := by omega
  have hj1 : 1 ≤ j := by omega
  have hjj : j + 1 < n := by omega
  have hk1 : 1 ≤ k := by omega
  have hkk : k + 1 < n := by omega
  have HC1 := hide (show 50 ≤ l → choosePivot ltP d a b = hintOf (median ltP d (medianAdjacent ltP d i 0).1 (medianAdjacent ltP d j (medianAdjacent ltP d i 0).2).1 (medianAdjacent ltP d k (medianAdjacent ltP d j (medianAdjacent ltP d i 0).2).2).1 (medianAdjacent ltP d k (medianAdjacent ltP d j (medianAdjacent ltP d i 0).2).2).2) from fun h50 => by
    unfold choosePivot hintOf
    simp only [show b - a = l by omega, if_pos h8, Nat.mul_one, hi, hj, hk]
    rw [if_pos h50])
  have HC2 := hide (show ¬ 50 ≤ l → choosePivot ltP d a b = hintOf (median ltP d i j k 0) from fun h50 => by
    unfold choosePivot hintOf
    simp only [show b - a = l by omega, if_pos h8, Nat.mul_one, hi, hj, hk]
    rw [if_neg h50])
  have hlb : l ≤ n := by omega
  clear S C S1 hs1 hb1 hl hab hi hj hk
  go_enter Tryz.func113, Tryz.ntmps113
  go_upto_region 7 with (fail)
  generalize (w.alloc (.cells #[.func (.func 34) #[] #[.pointer (some ⟨Bs, 0, none⟩)], .func (.func 107) #[] sb] 117)).alloc (.cells #[.int .i64 0] 3) = w1 at HS HBW ⊢
  generalize w.heap.size + 1 = q at HS hqW hqw HQW ⊢
  obtain ⟨bd, hbd⟩ : ∃ bd, w.heap.size = bd := ⟨_, rfl⟩
  rw [hbd] at HS hqw ⊢
  have c0 := HS.out.bx.cell 0
  have c1 := HS.out.bx.cell 1
  clear hbd ei ej ek e2 e4
  by_cases h50 : 50 ≤ l
  · have h50i : (l : Int) ≥ 50 := by omega
    have HR := hide (HC1.out h50)
    clear HC1 HC2
    have hf1 := HA.out w1 HS.out.sw q 0 (by omega) hqW HS.out.row i hi1 hij
    have l1 := med_lt d (s := 0) (a := i - 1) (b := i) (c := i + 1) (n := n) (by omega) (by omega) hij
    change (medianAdjacent ltP d i 0).1 < n ∧ (medianAdjacent ltP d i 0).2 ≤ 0 + 3 at l1
    generalize medianAdjacent ltP d i 0 = r1 at hf1 l1 HR
    obtain ⟨x1, s1⟩ := r1
    dsimp only at hf1 l1 HR
    have HF1 := hide hf1
    clear hf1
    go_upto_region 9 with (go_at_call 132; (with_reducible refine HF1.out.mono ?_); rintro e w2 ⟨rfl, ho⟩; replace HBW := hide (oq_below ho HBW.out HQW.out); replace HS := hide (HS.out.turn ho hqw); clear ho c0 c1; have c0 := HS.out.bx.cell 0; have c1 := HS.out.bx.cell 1)
    have hf2 := HA.out w2 HS.out.sw q s1 (by omega) hqW HS.out.row j hj1 hjj
    have l2 := med_lt d (s := s1) (a := j - 1) (b := j) (c := j + 1) (n := n) (by omega) (by omega) hjj
    change (medianAdjacent ltP d j s1).1 < n ∧ (medianAdjacent ltP d j s1).2 ≤ s1 + 3 at l2
    generalize medianAdjacent ltP d j s1 = r2 at hf2 l2 HR
    obtain ⟨x2, s2⟩ := r2
    dsimp only at hf2 l2 HR
    have HF2 := hide hf2
    clear hf2 HF1
    go_upto_region 10 with (go_at_call 132; (with_reducible refine HF2.out.mono ?_); rintro e w3 ⟨rfl, ho⟩; replace HBW := hide (oq_below ho HBW.out HQW.out); replace HS := hide (HS.out.turn ho hqw); clear ho c0 c1; have c0 := HS.out.bx.cell 0; have c1 := HS.out.bx.cell 1)
    have hf3 := HA.out w3 HS.out.sw q s2 (by omega) hqW HS.out.row k hk1 hkk
    have l3 := med_lt d (s := s2) (a := k - 1) (b := k) (c := k + 1) (n := n) (by omega) (by omega) hkk
    change (medianAdjacent ltP d k s2).1 < n ∧ (medianAdjacent ltP d k s2).2 ≤ s2 + 3 at l3
    generalize medianAdjacent ltP d k s2 = r3 at hf3 l3 HR
    obtain ⟨x3, s3⟩ := r3
    dsimp only at hf3 l3 HR
    have HF3 := hide hf3
    clear hf3 HF2
    go_upto_region 11 with (go_at_call 132; (with_reducible refine HF3.out.mono ?_); rintro e w4 ⟨rfl, ho⟩; replace HBW := hide (oq_below ho HBW.out HQW.out); replace HS := hide (HS.out.turn ho hqw); clear ho c0 c1; have c0 := HS.out.bx.cell 0; have c1 := HS.out.bx.cell 1)
    have hf4 := HF.out w4 HS.out.sw q s3 (by omega) hqW HS.out.row x1 x2 x3 l1.1 l2.1 l3.1
    generalize median ltP d x1 x2 x3 s3 = r at hf4 HR
    have HF4 := hide hf4
    clear hf4 HF3 l1 l2 l3
    go_upto_region 12 with (go_at_call 133; (with_reducible refine HF4.out.mono ?_); rintro e w5 ⟨rfl, ho⟩; replace HBW := hide (oq_below ho HBW.out HQW.out); replace HS := hide (HS.out.turn ho hqw); clear ho c0 c1)
    clear HF4
    obtain ⟨x, t⟩ := r
    dsimp only at HR HS
    have q0 := HS.out.row.cell 0
    have HBL := hide (HBW.out)
    by_cases ht0 : t = 0
    · have hti : (t : Int) = 0 := by omega
      go_wp2
      refine bodyPost_ret (results_tmp2 rfl _ _ _) rfl ?_
      rw [HR.out]
      exact ⟨by unfold hintOf; rw [if_pos ht0]; rfl, HBL.out⟩
    · have hti : ¬ (t : Int) = 0 := by omega
      by_cases ht12 : t = 12
      · have htj : (t : Int) = 12 := by omega
        go_wp2
        refine bodyPost_ret (results_tmp2 rfl _ _ _) rfl ?_
        rw [HR.out]
        exact ⟨by unfold hintOf; rw [if_neg ht0, if_pos ht12]; rfl, HBL.out⟩
      · have htj : ¬ (t : Int) = 12 := by omega
        go_wp2
        refine bodyPost_ret (results_tmp2 rfl _ _ _) rfl ?_
        rw [HR.out]
        exact ⟨by unfold hintOf; rw [if_neg ht0, if_neg ht12]; rfl, HBL.out⟩
  · have h50i : ¬ (l : Int) ≥ 50 := by omega
    have HR := hide (HC2.out h50)
    clear HC1 HC2
    have hf4 := HF.out w1 HS.out.sw q 0 (by omega) hqW HS.out.row i j k (by omega) (by omega) (by omega)
    generalize median ltP d i j k 0 = r at hf4 HR
    have HF4 := hide hf4
    clear hf4
    go_upto_region 12 with (go_at_call 133; (with_reducible refine HF4.out.mono ?_); rintro e w5 ⟨rfl, ho⟩; replace HBW := hide (oq_below ho HBW.out HQW.out); replace HS := hide (HS.out.turn ho hqw); clear ho c0 c1)
    clear HF4
    obtain ⟨x, t⟩ := r
    dsimp only at HR HS
    have q0 := HS.out.row.cell 0
    have HBL := hide (HBW.out)
    by_cases ht0 : t = 0
    · have hti : (t : Int) = 0 := by omega
      go_wp2
      refine bodyPost_ret (results_tmp2 rfl _ _ _) rfl ?_
      rw [HR.out]
      exact ⟨by unfold hintOf; rw [if_pos ht0]; rfl, HBL.out⟩
    · have hti : ¬ (t : Int) = 0 := by omega
      by_cases ht12 : t = 12
      · have htj : (t : Int) = 12 := by omega
        go_wp2
        refine bodyPost_ret (results_tmp2 rfl _ _ _) rfl ?_
        rw [HR.out]
        exact ⟨by unfold hintOf; rw [if_neg ht0, if_pos ht12]; rfl, HBL.out⟩
      · have htj : ¬ (t : Int) = 12 := by omega
        go_wp2
        refine bodyPost_ret (results_tmp2 rfl _ _ _) rfl ?_
        rw [HR.out]
        exact ⟨by unfold hintOf; rw [if_neg ht0, if_neg ht12]; rfl, HBL.out⟩
end
end Go.Proofs.YtiaegloipnhhdaaGreat
/- sort's partialInsertionSort_func over instances. Conditions: the row lies in memory; places are within it. -/
namespace Go.Proofs.YtiaegloipnhhdaaGreat
set_option maxRecDepth 100000
open Go.RowKit Go.Maps Go.Shelf Go.Sort Go.Lib
section
variable {W w : World} {blk Bs n : Nat} {d : Array (Int × Int)} {sb : Array Value}
theorem pin_done {a b s i : Nat} {d : Array (Int × Int)} (h : scanSorted ltP d b i = b) : partialIns ltP a b (s + 1) i d = (d, true) := by
  show (if scanSorted ltP d b i = b then (d, true) else _) = _
  rw [if_pos h]
theorem pin_short {a b s i : Nat} {d : Array (Int × Int)} (h : ¬ scanSorted ltP d b i = b) (h2 : b - a < 50) : partialIns ltP a b (s + 1) i d = (d, false) := by
  show (if scanSorted ltP d b i = b then (d, true) else if b - a < 50 then (d, false) else _) = _
  rw [if_neg h, if_pos h2]
theorem pin_long {a b s i : Nat} {d : Array (Int × Int)} (h : ¬ scanSorted ltP d b i = b) (h2 : ¬ b - a < 50) : partialIns ltP a b (s + 1) i d =
    partialIns ltP a b s (scanSorted ltP d b i) (if b - scanSorted ltP d b i ≥ 2 then shiftUp ltP b (scanSorted ltP d b i + 1) (if scanSorted ltP d b i - a ≥ 2 then shiftDown ltP (scanSorted ltP d b i - 1) (swp d (scanSorted ltP d b i) (scanSorted ltP d b i - 1)) else swp d (scanSorted ltP d b i) (scanSorted ltP d b i - 1))
      else (if scanSorted ltP d b i - a ≥ 2 then shiftDown ltP (scanSorted ltP d b i - 1) (swp d (scanSorted ltP d b i) (scanSorted ltP d b i - 1)) else swp d (scanSorted ltP d b i) (scanSorted ltP d b i - 1))) := by
  show (if scanSorted ltP d b i = b then (d, true) else if b - a < 50 then (d, false) else _) = _
  rw [if_neg h, if_neg h2]
set_option maxHeartbeats 32000000 in
theorem ppart_any (C : Cx W blk Bs n sb) (S : Sw W blk d w) (hd : d.size = n) {a b : Nat} (hab : a < b) (hbn : b ≤ n) :
    Calls Tryz.prog 115 #[.agg #[.func (.func 34) #[] #[.pointer (some ⟨Bs, 0, none⟩)], .func (.func 107) #[] sb], .int .i64 a, .int .i64 b] w fun e w' => e = .returned (.bool (partialInsertionSort ltP d a b).2) ∧ Sw W blk (partialInsertionSort ltP d a b).1 w' ∧ Kq (fun k => k = blk) w w' := by
  have HS := hide (show Sl W w (w.alloc (.cells #[.func (.func 34) #[] #[.pointer (some ⟨Bs, 0, none⟩)], .func (.func 107) #[] sb] 117)) blk d w.heap.size Bs sb from ⟨S.below (kept_alloc (kept_refl w) _) C.hb, .of_below (kept_alloc (kept_refl w) _), Row.new w _ _⟩)
  have hbd : w.heap.size ≠ blk := by have := C.hb; have := S.kq.size; omega
  have hn := C.hn
  have HL := hide (fun (w' : World) (d' : Array (Int × Int)) (h : Sw W blk d' w') (hd : d'.size = n) (i j : Nat) (hi : i < n) (hj : j < n) => less_any C h hd hi hj)
  have HW := hide (fun (w' : World) (d' : Array (Int × Int)) (h : Sl W w w' blk d' w.heap.size Bs sb) (hd : d'.size = n) (i j : Nat) (hi : i < n) (hj : j < n) => h.swap C hd hbd hi hj)
  have HB := hide C.hb
  clear S C
  go_enter Tryz.func115, Tryz.ntmps115
  go_upto_region 1 with (fail)
  generalize w.alloc (.cells #[.func (.func 34) #[] #[.pointer (some ⟨Bs, 0, none⟩)], .func (.func 107) #[] sb] 117) = w1 at HS ⊢
  generalize w.heap.size = bd at HS HW hbd ⊢
  have HD0 := hide hd
  have HP := hide (show partialIns ltP a b 5 (a + 1) d = partialInsertionSort ltP d a b from rfl)
  obtain ⟨P, hP⟩ : ∃ P, partialInsertionSort ltP d a b = P := ⟨_, rfl⟩
  rw [hP] at HP
  have HPP := hide hP
  clear hP hd
  go_wp2
  go_loopw [7, 8] (fun vi vs wr => ∃ (i st : Nat) (dk : Array (Int × Int)), vi = .int .i64 i ∧ vs = .int .i64 st ∧ st ≤ 5 ∧ a < i ∧ i ≤ b ∧ Hid (dk.size = n) ∧ Hid (Sl W w wr blk dk bd Bs sb) ∧ Hid (partialIns ltP a b (5 - st) i dk = P)) (fun _ vs _ => 5 - (intOf vs).toNat)
  case atStart => exact ⟨a + 1, 0, d, by go_num, rfl, by omega, by omega, by omega, HD0, HS, HP⟩
  case round =>
    clear HS HP HD0
    obtain ⟨i, st, dk, rfl, rfl, hst, hai, hib, HD, HT, HO⟩ := hrel
    by_cases hs5 : st < 5
    · have hs5i : (st : Int) < 5 := by omega
      have HST := hide (show 5 - st = (4 - st) + 1 by omega)
      rw [HST.out] at HO
      obtain ⟨I2, hI2⟩ : ∃ I2, scanSorted ltP dk b i = I2 := ⟨_, rfl⟩
      have HI2 := hide hI2
      clear hI2 HST
      go_wp2
      go_loopw [7] (fun vi wr => ∃ i' : Nat, vi = .int .i64 i' ∧ a < i' ∧ i' ≤ b ∧ Hid (Sl W w wr blk dk bd Bs sb) ∧ Hid (scanSorted ltP dk b i' = I2)) (fun vi _ => b - (intOf vi).toNat)
      case atStart => exact ⟨i, rfl, hai, hib, HT, HI2⟩
      case round =>
        clear HT
        obtain ⟨i', rfl, hai', hib', HT, HJ⟩ := hrel
        have c0 := HT.out.bx.cell 0
        have c1 := HT.out.bx.cell 1
        by_cases hlt : i' < b
        · have hlti : (i' : Int) < (b : Int) := by omega
          have hl := HL.out wr dk HT.out.sw HD.out i' (i' - 1) (by omega) (by omega)
          rw [show ((i' - 1 : Nat) : Int) = (i' : Int) - 1 by omega] at hl
          cases hlv : ltP dk[i']! dk[i' - 1]! with
          | false =>
            rw [hlv] at hl
            have HLL := hide hl
            have HLV := hide hlv
            clear hl hlv
            go_wp2_with (go_at_call 34; (with_reducible refine HLL.out.mono ?_); rintro e w2 ⟨rfl, hb2⟩; replace HT := hide (HT.out.below hb2 HB.out); clear hb2 c0 c1)
            go_roundw
            case rel => exact ⟨i' + 1, by go_num, by omega, by omega, HT, hide (by rw [← HJ.out, scanSorted_go (lt := ltP) dk b i' hlt HLV.out])⟩
            case measure => simp [intOf]; omega
          | true =>
            have hii : I2 = i' := by rw [← HJ.out, scanSorted_stop (lt := ltP) dk b i' (Or.inr hlv)]
            have hne : ¬ scanSorted ltP dk b i = b := by rw [HI2.out, hii]; omega
            rw [hlv] at hl
            have HLL := hide hl
            clear hl hlv
            have hnei : ((i' : Int) == (b : Int)) = false := by simp; omega
            by_cases h50 : b - a < 50
            · have h50i : (b : Int) - (a : Int) < 50 := by omega
              have HE := hide (show P = (dk, false) by rw [← HO.out, pin_short hne h50])
              clear hne hii
              go_wp2_with (go_at_call 34; (with_reducible refine HLL.out.mono ?_); rintro e w2 ⟨rfl, hb2⟩; replace HT := hide (HT.out.below hb2 HB.out); clear hb2 c0 c1)
              go_ret
              rw [HPP.out, HE.out]
              exact ⟨rfl, HT.out.sw, HT.out.kq⟩
            · have h50i : ¬ (b : Int) - (a : Int) < 50 := by omega
              have HE := hide (show P = _ by rw [← HO.out, pin_long hne h50, HI2.out, hii])
              clear hne hii
              go_upto_region 11 with (go_at_call 34; (with_reducible refine HLL.out.mono ?_); rintro e w2 ⟨rfl, hb2⟩; replace HT := hide (HT.out.below hb2 HB.out); clear hb2 c0 c1; have c0 := HT.out.bx.cell 0; have c1 := HT.out.bx.cell 1)
              clear hnei
              obtain ⟨w3, hs, hT3⟩ := HW.out w2 dk HT.out HD.out i' (i' - 1) (by omega) (by omega)
              rw [show ((i' - 1 : Nat) : Int) = (i' : Int) - 1 by omega] at hs
              have HT3 := hide hT3
              have HD3 := hide (show (swp dk i' (i' - 1)).size = n by rw [size_swp]; exact HD.out)
              clear hT3 HLL
              obtain ⟨D1, hD1⟩ : ∃ D1, swp dk i' (i' - 1) = D1 := ⟨_, rfl⟩
              rw [hD1] at HT3 HD3 HE
              clear hD1 HO HJ HI2
              have d0 := HT3.out.bx.cell 0
              have d1 := HT3.out.bx.cell 1
              by_cases h2 : i' - a ≥ 2
              · have h2i : (i' : Int) - (a : Int) ≥ 2 := by omega
                rw [if_pos h2] at HE
                go_wp2_with (first | (rw [hs, Oper.upon_value]) | fail)
                go_loopw [9] (fun vj wr => ∃ (j : Nat) (dj : Array (Int × Int)), vj = .int .i64 j ∧ j ≤ i' - 1 ∧ Hid (dj.size = n) ∧ Hid (Sl W w wr blk dj bd Bs sb) ∧ Hid (shiftDown ltP j dj = shiftDown ltP (i' - 1) D1)) (fun vj _ => (intOf vj).toNat)
                case atStart => exact ⟨i' - 1, D1, by go_num, by omega, HD3, HT3, hide rfl⟩
                case round =>
                  clear HT3 HD3 d0 d1 hs
                  obtain ⟨j, dj, rfl, hj1, HDK, HTK, HOK⟩ := hrel
                  have c0 := HTK.out.bx.cell 0
                  have c1 := HTK.out.bx.cell 1
                  by_cases hj0 : 1 ≤ j
                  · have hj0i : (j : Int) ≥ 1 := by omega
                    have hl := HL.out wr dj HTK.out.sw HDK.out j (j - 1) (by omega) (by omega)
                    rw [show ((j - 1 : Nat) : Int) = (j : Int) - 1 by omega] at hl
                    cases hlv : ltP dj[j]! dj[j - 1]! with
                    | true =>
                      rw [hlv] at hl
                      have HLL := hide hl
                      have HLV := hide hlv
                      clear hl hlv
                      go_upto_region 17 with (go_at_call 34; (with_reducible refine HLL.out.mono ?_); rintro e w4 ⟨rfl, hb2⟩; replace HTK := hide (HTK.out.below hb2 HB.out); clear hb2 c0 c1; have c0 := HTK.out.bx.cell 0; have c1 := HTK.out.bx.cell 1)
                      obtain ⟨w5, hs5', hT5⟩ := HW.out w4 dj HTK.out HDK.out j (j - 1) (by omega) (by omega)
                      rw [show ((j - 1 : Nat) : Int) = (j : Int) - 1 by omega] at hs5'
                      have HT5 := hide hT5
                      clear hT5
                      go_wp2_with (first | (rw [hs5', Oper.upon_value]) | fail)
                      exact ⟨⟨j - 1, swp dj j (j - 1), by go_num, by omega, hide (by rw [size_swp]; exact HDK.out), HT5, hide (by rw [← HOK.out, shiftDown_go (lt := ltP) j dj hj0 HLV.out])⟩, by simp [intOf]; omega⟩
                    | false =>
                      rw [hlv] at hl
                      have HLL := hide hl
                      rw [show shiftDown ltP (i' - 1) D1 = dj by rw [← HOK.out, shiftDown_stop (lt := ltP) j dj (Or.inr hlv)]] at HE
                      clear hl hlv HOK
                      by_cases h3 : b - i' ≥ 2
                      · have h3i : (b : Int) - (i' : Int) ≥ 2 := by omega
                        rw [if_pos h3] at HE
                        go_wp2_with (go_at_call 34; (with_reducible refine HLL.out.mono ?_); rintro e w4 ⟨rfl, hb2⟩; replace HTK := hide (HTK.out.below hb2 HB.out); clear hb2 c0 c1)
                        go_loopw [10] (fun vj wr => ∃ (j : Nat) (dz : Array (Int × Int)), vj = .int .i64 j ∧ i' + 1 ≤ j ∧ j ≤ b ∧ Hid (dz.size = n) ∧ Hid (Sl W w wr blk dz bd Bs sb) ∧ Hid (shiftUp ltP b j dz = shiftUp ltP b (i' + 1) dj)) (fun vj _ => b - (intOf vj).toNat)
                        case atStart => exact ⟨i' + 1, dj, by go_num, by omega, by omega, HDK, HTK, hide rfl⟩
                        case round =>
                          clear HTK HDK
                          obtain ⟨j, dz, rfl, hj1, hjb, HDJ, HTJ, HOJ⟩ := hrel
                          have c0 := HTJ.out.bx.cell 0
                          have c1 := HTJ.out.bx.cell 1
                          by_cases hjl : j < b
                          · have hjli : (j : Int) < (b : Int) := by omega
                            have hl := HL.out wr dz HTJ.out.sw HDJ.out j (j - 1) (by omega) (by omega)
                            rw [show ((j - 1 : Nat) : Int) = (j : Int) - 1 by omega] at hl
                            cases hlv : ltP dz[j]! dz[j - 1]! with
                            | true =>
                              rw [hlv] at hl
                              have HLL := hide hl
                              have HLV := hide hlv
                              clear hl hlv
                              go_upto_region 23 with (go_at_call 34; (with_reducible refine HLL.out.mono ?_); rintro e w6 ⟨rfl, hb2⟩; replace HTJ := hide (HTJ.out.below hb2 HB.out); clear hb2 c0 c1; have c0 := HTJ.out.bx.cell 0; have c1 := HTJ.out.bx.cell 1)
                              obtain ⟨w7, hs7, hT7⟩ := HW.out w6 dz HTJ.out HDJ.out j (j - 1) (by omega) (by omega)
                              rw [show ((j - 1 : Nat) : Int) = (j : Int) - 1 by omega] at hs7
                              have HT7 := hide hT7
                              clear hT7
                              go_wp2_with (first | (rw [hs7, Oper.upon_value]) | fail)
                              exact ⟨⟨j + 1, swp dz j (j - 1), by go_num, by omega, by omega, hide (by rw [size_swp]; exact HDJ.out), HT7, hide (by rw [← HOJ.out, shiftUp_go (lt := ltP) b j dz hjl HLV.out])⟩, by simp [intOf]; omega⟩
                            | false =>
                              rw [hlv] at hl
                              have HLL := hide hl
                              have HFI := hide (show shiftUp ltP b (i' + 1) dj = dz by rw [← HOJ.out, shiftUp_stop (lt := ltP) b j dz (Or.inr hlv)])
                              clear hl hlv
                              go_wp2_with (go_at_call 34; (with_reducible refine HLL.out.mono ?_); rintro e w6 ⟨rfl, hb2⟩; replace HTJ := hide (HTJ.out.below hb2 HB.out); clear hb2 c0 c1)
                              go_roundw
                              case rel => exact ⟨i', st + 1, dz, rfl, by go_num, by omega, by omega, by omega, HDJ, HTJ, hide (by rw [show 5 - (st + 1) = 4 - st by omega, HE.out, HFI.out])⟩
                              case measure => simp [intOf]; omega
                          · have hjli : ¬ (j : Int) < (b : Int) := by omega
                            have HFI := hide (show shiftUp ltP b (i' + 1) dj = dz by rw [← HOJ.out, shiftUp_stop (lt := ltP) b j dz (Or.inl hjl)])
                            go_wp2
                            go_roundw
                            case rel => exact ⟨i', st + 1, dz, rfl, by go_num, by omega, by omega, by omega, HDJ, HTJ, hide (by rw [show 5 - (st + 1) = 4 - st by omega, HE.out, HFI.out])⟩
                            case measure => simp [intOf]; omega
                      · have h3i : ¬ (b : Int) - (i' : Int) ≥ 2 := by omega
                        rw [if_neg h3] at HE
                        go_wp2_with (go_at_call 34; (with_reducible refine HLL.out.mono ?_); rintro e w4 ⟨rfl, hb2⟩; replace HTK := hide (HTK.out.below hb2 HB.out); clear hb2 c0 c1)
                        go_roundw
                        case rel => exact ⟨i', st + 1, dj, rfl, by go_num, by omega, by omega, by omega, HDK, HTK, hide (by rw [show 5 - (st + 1) = 4 - st by omega, HE.out])⟩
                        case measure => simp [intOf]; omega
                  · have hj0i : ¬ (j : Int) ≥ 1 := by omega
                    rw [show shiftDown ltP (i' - 1) D1 = dj by rw [← HOK.out, shiftDown_stop (lt := ltP) j dj (Or.inl (by omega))]] at HE
                    clear HOK
                    by_cases h3 : b - i' ≥ 2
                    · have h3i : (b : Int) - (i' : Int) ≥ 2 := by omega
                      rw [if_pos h3] at HE
                      go_wp2
                      go_loopw [10] (fun vj wr => ∃ (j : Nat) (dz : Array (Int × Int)), vj = .int .i64 j ∧ i' + 1 ≤ j ∧ j ≤ b ∧ Hid (dz.size = n) ∧ Hid (Sl W w wr blk dz bd Bs sb) ∧ Hid (shiftUp ltP b j dz = shiftUp ltP b (i' + 1) dj)) (fun vj _ => b - (intOf vj).toNat)
                      case atStart => exact ⟨i' + 1, dj, by go_num, by omega, by omega, HDK, HTK, hide rfl⟩
                      case round =>
                        clear HTK HDK
                        obtain ⟨j, dz, rfl, hj1, hjb, HDJ, HTJ, HOJ⟩ := hrel
                        have c0 := HTJ.out.bx.cell 0
                        have c1 := HTJ.out.bx.cell 1
                        by_cases hjl : j < b
                        · have hjli : (j : Int) < (b : Int) := by omega
                          have hl := HL.out wr dz HTJ.out.sw HDJ.out j (j - 1) (by omega) (by omega)
                          rw [show ((j - 1 : Nat) : Int) = (j : Int) - 1 by omega] at hl
                          cases hlv : ltP dz[j]! dz[j - 1]! with
                          | true =>
                            rw [hlv] at hl
                            have HLL := hide hl
                            have HLV := hide hlv
                            clear hl hlv
                            go_upto_region 23 with (go_at_call 34; (with_reducible refine HLL.out.mono ?_); rintro e w6 ⟨rfl, hb2⟩; replace HTJ := hide (HTJ.out.below hb2 HB.out); clear hb2 c0 c1; have c0 := HTJ.out.bx.cell 0; have c1 := HTJ.out.bx.cell 1)
                            obtain ⟨w7, hs7, hT7⟩ := HW.out w6 dz HTJ.out HDJ.out j (j - 1) (by omega) (by omega)
                            rw [show ((j - 1 : Nat) : Int) = (j : Int) - 1 by omega] at hs7
                            have HT7 := hide hT7
                            clear hT7
                            go_wp2_with (first | (rw [hs7, Oper.upon_value]) | fail)
                            exact ⟨⟨j + 1, swp dz j (j - 1), by go_num, by omega, by omega, hide (by rw [size_swp]; exact HDJ.out), HT7, hide (by rw [← HOJ.out, shiftUp_go (lt := ltP) b j dz hjl HLV.out])⟩, by simp [intOf]; omega⟩
                          | false =>
                            rw [hlv] at hl
                            have HLL := hide hl
                            have HFI := hide (show shiftUp ltP b (i' + 1) dj = dz by rw [← HOJ.out, shiftUp_stop (lt := ltP) b j dz (Or.inr hlv)])
                            clear hl hlv
                            go_wp2_with (go_at_call 34; (with_reducible refine HLL.out.mono ?_); rintro e w6 ⟨rfl, hb2⟩; replace HTJ := hide (HTJ.out.below hb2 HB.out); clear hb2 c0 c1)
                            go_roundw
                            case rel => exact ⟨i', st + 1, dz, rfl, by go_num, by omega, by omega, by omega, HDJ, HTJ, hide (by rw [show 5 - (st + 1) = 4 - st by omega, HE.out, HFI.out])⟩
                            case measure => simp [intOf]; omega
                        · have hjli : ¬ (j : Int) < (b : Int) := by omega
                          have HFI := hide (show shiftUp ltP b (i' + 1) dj = dz by rw [← HOJ.out, shiftUp_stop (lt := ltP) b j dz (Or.inl hjl)])
                          go_wp2
                          go_roundw
                          case rel => exact ⟨i', st + 1, dz, rfl, by go_num, by omega, by omega, by omega, HDJ, HTJ, hide (by rw [show 5 - (st + 1) = 4 - st by omega, HE.out, HFI.out])⟩
                          case measure => simp [intOf]; omega
                    · have h3i : ¬ (b : Int) - (i' : Int) ≥ 2 := by omega
                      rw [if_neg h3] at HE
                      go_wp2
                      go_roundw
                      case rel => exact ⟨i', st + 1, dj, rfl, by go_num, by omega, by omega, by omega, HDK, HTK, hide (by rw [show 5 - (st + 1) = 4 - st by omega, HE.out])⟩
                      case measure => simp [intOf]; omega
              · have h2i : ¬ (i' : Int) - (a : Int) ≥ 2 := by omega
                rw [if_neg h2] at HE
                by_cases h3 : b - i' ≥ 2
                · have h3i : (b : Int) - (i' : Int) ≥ 2 := by omega
                  rw [if_pos h3] at HE
                  go_wp2_with (first | (rw [hs, Oper.upon_value]) | fail)
                  go_loopw [10] (fun vj wr => ∃ (j : Nat) (dz : Array (Int × Int)), vj = .int .i64 j ∧ i' + 1 ≤ j ∧ j ≤ b ∧ Hid (dz.size = n) ∧ Hid (Sl W w wr blk dz bd Bs sb) ∧ Hid (shiftUp ltP b j dz = shiftUp ltP b (i' + 1) D1)) (fun vj _ => b - (intOf vj).toNat)
                  case atStart => exact ⟨i' + 1, D1, by go_num, by omega, by omega, HD3, HT3, hide rfl⟩
                  case round =>
                    clear HT3 HD3
                    obtain ⟨j, dz, rfl, hj1, hjb, HDJ, HTJ, HOJ⟩ := hrel
                    have c0 := HTJ.out.bx.cell 0
                    have c1 := HTJ.out.bx.cell 1
                    by_cases hjl : j < b
                    · have hjli : (j : Int) < (b : Int) := by omega
                      have hl := HL.out wr dz HTJ.out.sw HDJ.out j (j - 1) (by omega) (by omega)
                      rw [show ((j - 1 : Nat) : Int) = (j : Int) - 1 by omega] at hl
                      cases hlv : ltP dz[j]! dz[j - 1]! with
                      | true =>
                        rw [hlv] at hl
                        have HLL := hide hl
                        have HLV := hide hlv
                        clear hl hlv
                        go_upto_region 23 with (go_at_call 34; (with_reducible refine HLL.out.mono ?_); rintro e w6 ⟨rfl, hb2⟩; replace HTJ := hide (HTJ.out.below hb2 HB.out); clear hb2 c0 c1; have c0 := HTJ.out.bx.cell 0; have c1 := HTJ.out.bx.cell 1)
                        obtain ⟨w7, hs7, hT7⟩ := HW.out w6 dz HTJ.out HDJ.out j (j - 1) (by omega) (by omega)
                        rw [show ((j - 1 : Nat) : Int) = (j : Int) - 1 by omega] at hs7
                        have HT7 := hide hT7
                        clear hT7
                        go_wp2_with (first | (rw [hs7, Oper.upon_value]) | fail)
                        exact ⟨⟨j + 1, swp dz j (j - 1), by go_num, by omega, by omega, hide (by rw [size_swp]; exact HDJ.out), HT7, hide (by rw [← HOJ.out, shiftUp_go (lt := ltP) b j dz hjl HLV.out])⟩, by simp [intOf]; omega⟩
                      | false =>
                        rw [hlv] at hl
                        have HLL := hide hl
                        have HFI := hide (show shiftUp ltP b (i' + 1) D1 = dz by rw [← HOJ.out, shiftUp_stop (lt := ltP) b j dz (Or.inr hlv)])
                        clear hl hlv
                        go_wp2_with (go_at_call 34; (with_reducible refine HLL.out.mono ?_); rintro e w6 ⟨rfl, hb2⟩; replace HTJ := hide (HTJ.out.below hb2 HB.out); clear hb2 c0 c1)
                        go_roundw
                        case rel => exact ⟨i', st + 1, dz, rfl, by go_num, by omega, by omega, by omega, HDJ, HTJ, hide (by rw [show 5 - (st + 1) = 4 - st by omega, HE.out, HFI.out])⟩
                        case measure => simp [intOf]; omega
                    · have hjli : ¬ (j : Int) < (b : Int) := by omega
                      have HFI := hide (show shiftUp ltP b (i' + 1) D1 = dz by rw [← HOJ.out, shiftUp_stop (lt := ltP) b j dz (Or.inl hjl)])
                      go_wp2
                      go_roundw
                      case rel => exact ⟨i', st + 1, dz, rfl, by go_num, by omega, by omega, by omega, HDJ, HTJ, hide (by rw [show 5 - (st + 1) = 4 - st by omega, HE.out, HFI.out])⟩
                      case measure => simp [intOf]; omega
                · have h3i : ¬ (b : Int) - (i' : Int) ≥ 2 := by omega
                  exfalso; omega
        · have hii : I2 = b := by rw [← HJ.out, scanSorted_stop (lt := ltP) dk b i' (Or.inl hlt)]; omega
          have hib2 : i' = b := by omega
          have HE := hide (show P = (dk, true) by rw [← HO.out, pin_done (by rw [HI2.out, hii])])
          have hlti : ¬ (i' : Int) < (b : Int) := by omega
          have hnei : (i' : Int) = (b : Int) := by omega
          clear hii hib2
          go_wp2
          go_ret
          rw [HPP.out, HE.out]
          exact ⟨rfl, HT.out.sw, HT.out.kq⟩
    · have hs5i : ¬ (st : Int) < 5 := by omega
      have HE := hide (show P = (dk, false) by rw [← HO.out, show 5 - st = 0 by omega]; rfl)
      go_wp2
      go_ret
      rw [HPP.out, HE.out]
      exact ⟨rfl, HT.out.sw, HT.out.kq⟩
end
end Go.Proofs.YtiaegloipnhhdaaGreat
