/- What a world keeps while instances are sorted; the program's closure of List; the swap. Conditions: the row lies in memory; places are within it. -/
import Derived.Test.YtiaegloipnhhdaaGreatQr
import Derived.BigQuiet
import Derived.Shelf.SlSortFuncK.WholeK
import Derived.LoopTactic
namespace Go.Proofs.YtiaegloipnhhdaaGreat
set_option maxRecDepth 100000
open Go.RowKit Go.Maps Go.Shelf Go.Sort Go.Lib
/-- The block's length and kind are kept. -/
def Shp (blk : Nat) (W w : World) : Prop := ∀ c e f, W.heap[blk]? = some (Obj.cells c e f) → ∃ c', w.heap[blk]? = some (Obj.cells c' e f) ∧ c'.size = c.size
section
variable {blk : Nat} {W w w' : World}
theorem Shp.refl (blk : Nat) (W : World) : Shp blk W W := fun c _ _ h => ⟨c, h, rfl⟩
theorem Shp.trans (h : Shp blk W w) (k : Shp blk w w') : Shp blk W w' := fun c e f hc => by
  obtain ⟨c1, h1, e1⟩ := h c e f hc
  obtain ⟨c2, h2, e2⟩ := k c1 e f h1
  exact ⟨c2, h2, e2.trans e1⟩
theorem Shp.eq (h : w'.heap[blk]? = w.heap[blk]?) : Shp blk w w' := fun c _ _ hc => ⟨c, h.trans hc, rfl⟩
theorem Shp.mapped (w : World) (blk : Nat) (f : Array Value → Array Value) (hf : ∀ c, (f c).size = c.size) : Shp blk w (mapBlock w blk f) := fun c e fr hc => by
  refine ⟨f c, ?_, hf c⟩
  simp only [mapBlock]
  rw [Array.getElem?_modify, if_pos rfl, hc]
  rfl
theorem Shp.set (w : World) (blk off : Nat) (v : Value) : Shp blk w (w.setCell ⟨blk, off, none⟩ v) := by
  rw [setCell_eq]
  exact Shp.mapped w blk _ (fun c => by simp)
theorem Shp.sets (blk : Nat) : ∀ (vs : List Value) (o : Nat) (w : World), Shp blk w (w.setCells blk o vs)
  | [], _, w => Shp.refl blk w
  | v :: r, o, w => (Shp.set w blk o v).trans (Shp.sets blk r (o + 1) _)
end
/-- The row at blk holds d; all else of W is kept. -/
structure Sw (W : World) (blk : Nat) (d : Array (Int × Int)) (w : World) : Prop where
  h : HoldsK ic 2 w blk 0 d
  kq : Kq (fun k => k = blk) W w
  sh : Shp blk W w
/-- Whom the sort asks: the caller's closure by its variable's block, the swap. -/
structure Cx (W : World) (blk Bs n : Nat) (sb : Array Value) : Prop where
  bs : ∃ c, Row W Bs 48 #[.slice (some ⟨blk, 0, none⟩) n c]
  ne : Bs ≠ blk
  sw : SwapSwapsK Tryz.prog 107 sb ic 2 blk 0 n
  hb : blk < W.heap.size
  hn : n < 4611686018427387904
theorem ic_len (x : Int × Int) : (ic x).length = 2 := rfl
/-- What a call of the sort keeps: the row, its own boxed argument. -/
structure Sl (W w0 w : World) (blk : Nat) (d : Array (Int × Int)) (bd Bs : Nat) (sb : Array Value) : Prop where
  sw : Sw W blk d w
  kq : Kq (fun k => k = blk) w0 w
  bx : Row w bd 117 #[.func (.func 34) #[] #[.pointer (some ⟨Bs, 0, none⟩)], .func (.func 107) #[] sb]
section
variable {W w0 w w' : World} {blk bd Bs n : Nat} {d d' : Array (Int × Int)} {sb : Array Value}
theorem holds_below (h : HoldsK ic 2 w blk 0 d) (hb : RowKit.Below w.heap.size w w') (hl : blk < w.heap.size) : HoldsK ic 2 w' blk 0 d := fun t ht => by
  have h1 := h t ht
  have e := hb.block blk hl
  exact ⟨by simp only [World.cell?, e]; exact h1.1, by simp only [World.frozen?, e]; exact h1.2⟩
theorem Sw.below (h : Sw W blk d w) (hb : RowKit.Below w.heap.size w w') (hl : blk < W.heap.size) : Sw W blk d w' := ⟨holds_below h.h hb (Nat.lt_of_lt_of_le hl h.kq.size), h.kq.trans (Kq.of_below (o := fun k => k = blk) hb) (fun _ _ e => e), h.sh.trans (Shp.eq (hb.block blk (Nat.lt_of_lt_of_le hl h.kq.size)))⟩
theorem Sw.start (h : HoldsK ic 2 W blk 0 d) : Sw W blk d W := ⟨h, .refl _ _, Shp.refl _ _⟩
theorem Sl.below (h : Sl W w0 w blk d bd Bs sb) (hb : RowKit.Below w.heap.size w w') (hl : blk < W.heap.size) : Sl W w0 w' blk d bd Bs sb := ⟨h.sw.below hb hl, h.kq.trans (Kq.of_below (o := fun k => k = blk) hb) (fun _ _ e => e), h.bx.below hb h.bx.lt⟩
/-- A callee has turned the row. -/
theorem Sl.turn (h : Sl W w0 w blk d bd Bs sb) (hs : Sw W blk d' w') (k : Kq (fun k => k = blk) w w') (hn : bd ≠ blk) : Sl W w0 w' blk d' bd Bs sb := ⟨hs, h.kq.trans k (fun _ _ e => e), k.row h.bx hn⟩
/-- The swap of two places. -/
theorem Sl.swap (C : Cx W blk Bs n sb) (h : Sl W w0 w blk d bd Bs sb) (hd : d.size = n) (hn : bd ≠ blk) {i j : Nat} (hi : i < n) (hj : j < n) :
    ∃ w2, (callFunc 107 (#[.int .i64 i, .int .i64 j] ++ sb)).run Tryz.prog w = .ok (.value (.tuple #[])) w2 ∧ Sl W w0 w2 blk (swp d i j) bd Bs sb := by
  have hs := C.sw w d h.sw.h hd i j hi hj
  have e := putRowK_self (enc := ic) (k := 2) w blk 0 d h.sw.h
  have h2 := putRowK_swp (enc := ic) (k := 2) ic_len w blk 0 d i j (by omega) (by omega)
  rw [e] at h2
  have hg : w.grownBy ((w.setCells blk (0 + i * 2) (ic d[j]!)).setCells blk (0 + j * 2) (ic d[i]!)) (some blk) :=
    (grown_setCells blk (ic d[j]!) (0 + i * 2) w).trans (grown_setCells blk (ic d[i]!) (0 + j * 2) _)
  refine ⟨_, hs, ⟨?_, ?_, h.sw.sh.trans ((Shp.sets blk _ _ w).trans (Shp.sets blk _ _ _))⟩, ?_, h.bx.grown hg (by simpa using hn)⟩
  · rw [h2]
    exact holdsK_putRowK ic 2 w blk 0 d _ h.sw.h (size_swp _ _ _)
  · exact h.sw.kq.trans (Kq.grown (o := fun k => k = blk) hg (fun b e => by injection e with e; exact e.symm)) (fun _ _ e => e)
  · exact h.kq.trans (Kq.grown (o := fun k => k = blk) hg (fun b e => by injection e with e; exact e.symm)) (fun _ _ e => e)
end
set_option maxHeartbeats 4000000 in
/-- The closure: it holds two places of the row against each other; it lays blocks of its own. -/
theorem less_any {W w : World} {blk Bs n : Nat} {d : Array (Int × Int)} {sb : Array Value} (C : Cx W blk Bs n sb) (h : Sw W blk d w) (hd : d.size = n) {i j : Nat} (hi : i < n) (hj : j < n) :
    Calls Tryz.prog 34 #[.int .i64 i, .int .i64 j, .pointer (some ⟨Bs, 0, none⟩)] w fun e w' => e = .returned (.bool (ltP d[i]! d[j]!)) ∧ RowKit.Below w.heap.size w w' := by
  obtain ⟨c, hbs⟩ := C.bs
  have RB := hide (h.kq.row hbs C.ne)
  have hlb := Nat.lt_of_lt_of_le C.hb h.kq.size
  have HLB := hide hlb
  have HH := hide h.h
  have HLS := hide (fun w => less_at d[i]!.1 d[i]!.2 d[j]!.1 d[j]!.2 w)
  have hie := (h.h.cell (i := i) (c := 0) (by omega) (by omega)).1
  have hn := C.hn
  have hii : (i : Int) < (n : Int) := by omega
  have hji : (j : Int) < (n : Int) := by omega
  have HI := hide (show i < d.size ∧ j < d.size by omega)
  obtain ⟨t, ht⟩ : ∃ t, ltP d[i]! d[j]! = t := ⟨_, rfl⟩
  have ht2 : ltP (d[i]!.1, d[i]!.2) (d[j]!.1, d[j]!.2) = t := ht
  rw [ht2] at HLS
  rw [ht]
  clear h hbs C hie ht ht2 hlb hd
  go_enter Tryz.func34, Tryz.ntmps34
  go_upto_region 1 with (fail)
  have HB0 : RowKit.Below w.heap.size w w := kept_refl w
  refine wp_region_sp (fun w' => RowKit.Below w.heap.size w w') (by kernel_rfl) (by kernel_rfl) (show RowKit.Below w.heap.size w w.drew from kept_drewN HB0 1) ?_
  generalize hS : (fun w' => RowKit.Below w.heap.size w w') = S
  have l0 : ∀ z : Sp S, z.w.cell? ⟨Bs, 0, none⟩ = some (.slice (some ⟨blk, 0, none⟩) n c) := by subst hS; exact fun z => (RB.out.below z.ok RB.out.lt).cell 0
  have l1 : ∀ z : Sp S, z.w.cell? ⟨blk, 0 + i * 2, none⟩ = some (.int .i64 d[i]!.1) := by subst hS; exact fun z => ((holds_below HH.out z.ok HLB.out).cell (i := i) (c := 0) HI.out.1 (by omega)).1
  have l2 : ∀ z : Sp S, z.w.cell? ⟨blk, 0 + i * 2 + 1, none⟩ = some (.int .i64 d[i]!.2) := by subst hS; exact fun z => ((holds_below HH.out z.ok HLB.out).cell (i := i) (c := 1) HI.out.1 (by omega)).1
  have l3 : ∀ z : Sp S, z.w.cell? ⟨blk, 0 + j * 2, none⟩ = some (.int .i64 d[j]!.1) := by subst hS; exact fun z => ((holds_below HH.out z.ok HLB.out).cell (i := j) (c := 0) HI.out.2 (by omega)).1
  have l4 : ∀ z : Sp S, z.w.cell? ⟨blk, 0 + j * 2 + 1, none⟩ = some (.int .i64 d[j]!.2) := by subst hS; exact fun z => ((holds_below HH.out z.ok HLB.out).cell (i := j) (c := 1) HI.out.2 (by omega)).1
  simp only [Nat.zero_add] at l1 l2 l3 l4
  have ne : Nonempty (Sp S) := by subst hS; exact ⟨⟨_, HB0⟩⟩
  have STEP := hide (show ∀ w w', S w → RowKit.Below w.heap.size w w' → S w' by subst hS; exact fun _ _ h hb => kept_trans h hb)
  have OLD := hide (show ∀ z : Sp S, RowKit.Below w.heap.size w z.w by subst hS; exact fun z => z.ok)
  clear HB0 hS
  repeat (go_big_quiet_step ((first | (go_at_call 35; with_reducible exact sp_call STEP.out _ (HLS.out _)))))
  refine wpQuiet_nil ?_
  intro kk
  have OK := hide (OLD.out kk)
  generalize kk.w = wk at OK ⊢
  clear l0 l1 l2 l3 l4 ne OLD STEP
  go_wp2
  go_ret
  exact ⟨rfl, OK.out⟩
end Go.Proofs.YtiaegloipnhhdaaGreat
/- sort's insertionSort_func over instances: what it leaves in the row. Conditions: the row lies in memory; places are within it. -/
namespace Go.Proofs.YtiaegloipnhhdaaGreat
set_option maxRecDepth 100000
open Go.RowKit Go.Maps Go.Shelf Go.Sort Go.Lib
section
variable {W w : World} {blk Bs n : Nat} {d : Array (Int × Int)} {sb : Array Value}
set_option maxHeartbeats 4000000 in
theorem pins_any (C : Cx W blk Bs n sb) (S : Sw W blk d w) (hd : d.size = n) {a b : Nat} (hab : a ≤ b) (hbn : b ≤ n) :
    Calls Tryz.prog 110 #[.agg #[.func (.func 34) #[] #[.pointer (some ⟨Bs, 0, none⟩)], .func (.func 107) #[] sb], .int .i64 a, .int .i64 b] w fun e w' => e = .returned (.tuple #[]) ∧ Sw W blk (insertionSort ltP d a b) w' ∧ Kq (fun k => k = blk) w w' := by
  have HS := hide (show Sl W w (w.alloc (.cells #[.func (.func 34) #[] #[.pointer (some ⟨Bs, 0, none⟩)], .func (.func 107) #[] sb] 117)) blk d w.heap.size Bs sb from ⟨S.below (kept_alloc (kept_refl w) _) C.hb, .of_below (kept_alloc (kept_refl w) _), Row.new w _ _⟩)
  have hbd : w.heap.size ≠ blk := by have := C.hb; have := S.kq.size; omega
  have hn := C.hn
  have HL := hide (fun (w' : World) (d' : Array (Int × Int)) (h : Sw W blk d' w') (hd : d'.size = n) (i j : Nat) (hi : i < n) (hj : j < n) => less_any C h hd hi hj)
  have HW := hide (fun (w' : World) (d' : Array (Int × Int)) (h : Sl W w w' blk d' w.heap.size Bs sb) (hd : d'.size = n) (i j : Nat) (hi : i < n) (hj : j < n) => h.swap C hd hbd hi hj)
  have HB := hide C.hb
  clear S C
  go_enter Tryz.func110, Tryz.ntmps110
  go_upto_region 1 with (fail)
  generalize w.alloc (.cells #[.func (.func 34) #[] #[.pointer (some ⟨Bs, 0, none⟩)], .func (.func 107) #[] sb] 117) = w1 at HS ⊢
  generalize w.heap.size = bd at HS HW hbd ⊢
  go_wp2
  go_loopw [6] (fun vi wr => ∃ (i : Nat) (dk : Array (Int × Int)), vi = .int .i64 i ∧ a < i ∧ i ≤ b + 1 ∧ Hid (dk.size = n) ∧ Hid (Sl W w wr blk dk bd Bs sb) ∧ Hid (insOuter ltP a b i dk = insertionSort ltP d a b)) (fun vi _ => b + 1 - (intOf vi).toNat)
  case atStart => exact ⟨a + 1, d, by go_num, by omega, by omega, hide hd, HS, hide rfl⟩
  case round =>
    clear HS
    obtain ⟨i, dk, rfl, hai, hib, HD, HS, HO⟩ := hrel
    by_cases hlt : i < b
    · have hlti : (i : Int) < (b : Int) := by omega
      go_wp2
      go_loopw [7] (fun vj wq => ∃ (j : Nat) (dj : Array (Int × Int)), vj = .int .i64 j ∧ a ≤ j ∧ j ≤ i ∧ Hid (dj.size = n) ∧ Hid (Sl W w wq blk dj bd Bs sb) ∧ Hid (insInner ltP a j dj = insInner ltP a i dk)) (fun vj _ => (intOf vj).toNat)
      case atStart => exact ⟨i, dk, rfl, by omega, Nat.le_refl _, HD, HS, hide rfl⟩
      case round =>
        clear HS
        obtain ⟨j, dj, rfl, haj, hji, HE, HT, HI⟩ := hrel
        have out : ∀ w', Sl W w w' blk dj bd Bs sb → (j ≤ a ∨ ltP dj[j]! dj[j - 1]! = false) → ∃ (i' : Nat) (dk' : Array (Int × Int)), Value.int .i64 ((i : Int) + 1) = .int .i64 i' ∧ a < i' ∧ i' ≤ b + 1 ∧ Hid (dk'.size = n) ∧ Hid (Sl W w w' blk dk' bd Bs sb) ∧ Hid (insOuter ltP a b i' dk' = insertionSort ltP d a b) := fun w' hs hst =>
          ⟨i + 1, dj, by go_num, by omega, by omega, HE, hide hs, hide (by rw [← HO.out, insOuter_go _ _ _ _ _ hlt, ← HI.out, insInner_stop _ _ _ _ hst])⟩
        have OUT := hide out
        clear out
        by_cases hja : a < j
        · have hjai : (a : Int) < (j : Int) := by omega
          have hl := HL.out wr dj HT.out.sw HE.out j (j - 1) (by omega) (by omega)
          rw [show (((j - 1 : Nat) : Int)) = (j : Int) - 1 by omega] at hl
          have c0 := HT.out.bx.cell 0
          have c1 := HT.out.bx.cell 1
          cases hlv : ltP dj[j]! dj[j - 1]! with
          | true =>
            rw [hlv] at hl
            have HLV := hide hlv
            have HLL := hide hl
            clear hl hlv
            go_upto_region 7 with (go_at_call 34; (with_reducible refine HLL.out.mono ?_); rintro e w2 ⟨rfl, hb2⟩; replace HT := hide (HT.out.below hb2 HB.out); clear hb2 c0 c1; have c0 := HT.out.bx.cell 0; have c1 := HT.out.bx.cell 1)
            obtain ⟨w3, hs, HT3⟩ := HW.out w2 dj HT.out HE.out j (j - 1) (by omega) (by omega)
            rw [show (((j - 1 : Nat) : Int)) = (j : Int) - 1 by omega] at hs
            replace HT3 := hide HT3
            go_wp2_with (first | (rw [hs, Oper.upon_value]) | fail)
            exact ⟨⟨j - 1, swp dj j (j - 1), by go_num, by omega, by omega, hide (by rw [size_swp]; exact HE.out), HT3, hide (by rw [← HI.out, insInner_go ltP a j dj hja HLV.out])⟩, by simp [intOf]; omega⟩
          | false =>
            rw [hlv] at hl
            have HLV := hide hlv
            have HLL := hide hl
            clear hl hlv
            go_wp2_with (go_at_call 34; (with_reducible refine HLL.out.mono ?_); rintro e w2 ⟨rfl, hb2⟩; replace HT := hide (HT.out.below hb2 HB.out); clear hb2 c0 c1)
            go_roundw
            case rel => exact OUT.out _ HT.out (Or.inr HLV.out)
            case measure => simp [intOf]; omega
        · have hjai : ¬ (a : Int) < (j : Int) := by omega
          go_wp2
          go_roundw
          case rel => exact OUT.out _ HT.out (Or.inl (by omega))
          case measure => simp [intOf]; omega
    · have hlti : ¬ (i : Int) < (b : Int) := by omega
      go_wp2
      go_end0
      exact ⟨rfl, by rw [← HO.out, insOuter_stop _ _ _ _ _ hlt]; exact HS.out.sw, HS.out.kq⟩
end
end Go.Proofs.YtiaegloipnhhdaaGreat
/- sort's siftDown_func, heapSort_func over instances. Conditions: the row lies in memory; places are within it. -/
namespace Go.Proofs.YtiaegloipnhhdaaGreat
set_option maxRecDepth 100000
open Go.RowKit Go.Maps Go.Shelf Go.Sort Go.Lib
section
variable {W w : World} {blk Bs n : Nat} {d : Array (Int × Int)} {sb : Array Value}
theorem sift_stop {hi F r : Nat} {d : Array (Int × Int)} (h : hi ≤ 2 * r + 1) : siftDown ltP hi F r d = d := by
  rw [siftDown, dif_pos h]
theorem sift_right {hi F r : Nat} {d : Array (Int × Int)} (h : 2 * r + 1 + 1 < hi) (hl : ltP d[F + (2 * r + 1)]! d[F + (2 * r + 1) + 1]! = true) : siftDown ltP hi F r d = if ltP d[F + r]! d[F + (2 * r + 2)]! = true then siftDown ltP hi F (2 * r + 2) (swp d (F + r) (F + (2 * r + 2))) else d := by
  rw [siftDown, dif_neg (by omega), hl, decide_eq_true h, Bool.true_and, if_pos rfl, dif_pos (by omega)]
  cases ltP d[F + r]! d[F + (2 * r + 2)]! <;> rfl
theorem sift_left {hi F r : Nat} {d : Array (Int × Int)} (h : 2 * r + 1 < hi) (hl : ¬ 2 * r + 1 + 1 < hi ∨ ltP d[F + (2 * r + 1)]! d[F + (2 * r + 1) + 1]! = false) : siftDown ltP hi F r d = if ltP d[F + r]! d[F + (2 * r + 1)]! = true then siftDown ltP hi F (2 * r + 1) (swp d (F + r) (F + (2 * r + 1))) else d := by
  have e : (decide (2 * r + 1 + 1 < hi) && ltP d[F + (2 * r + 1)]! d[F + (2 * r + 1) + 1]!) = false := by
    rcases hl with h1 | h1
    · rw [decide_eq_false h1]; rfl
    · rw [h1, Bool.and_false]
  rw [siftDown, dif_neg (by omega), e, if_neg (by decide)]
  cases ltP d[F + r]! d[F + (2 * r + 1)]! <;> rfl
set_option maxHeartbeats 16000000 in
theorem psift_any (C : Cx W blk Bs n sb) (S : Sw W blk d w) (hd : d.size = n) {r0 hi F : Nat} (hr : r0 ≤ n) (hF : F + hi ≤ n) :
    Calls Tryz.prog 129 #[.agg #[.func (.func 34) #[] #[.pointer (some ⟨Bs, 0, none⟩)], .func (.func 107) #[] sb], .int .i64 r0, .int .i64 hi, .int .i64 F] w fun e w' => e = .returned (.tuple #[]) ∧ Sw W blk (siftDown ltP hi F r0 d) w' ∧ Kq (fun k => k = blk) w w' := by
  have HS := hide (show Sl W w (w.alloc (.cells #[.func (.func 34) #[] #[.pointer (some ⟨Bs, 0, none⟩)], .func (.func 107) #[] sb] 117)) blk d w.heap.size Bs sb from ⟨S.below (kept_alloc (kept_refl w) _) C.hb, .of_below (kept_alloc (kept_refl w) _), Row.new w _ _⟩)
  have hbd : w.heap.size ≠ blk := by have := C.hb; have := S.kq.size; omega
  have hn := C.hn
  have HL := hide (fun (w' : World) (d' : Array (Int × Int)) (h : Sw W blk d' w') (hd : d'.size = n) (i j : Nat) (hi : i < n) (hj : j < n) => less_any C h hd hi hj)
  have HW := hide (fun (w' : World) (d' : Array (Int × Int)) (h : Sl W w w' blk d' w.heap.size Bs sb) (hd : d'.size = n) (i j : Nat) (hi : i < n) (hj : j < n) => h.swap C hd hbd hi hj)
  have HB := hide C.hb
  clear S C
  go_enter Tryz.func129, Tryz.ntmps129
  go_upto_region 1 with (fail)
  generalize w.alloc (.cells #[.func (.func 34) #[] #[.pointer (some ⟨Bs, 0, none⟩)], .func (.func 107) #[] sb] 117) = w1 at HS ⊢
  generalize w.heap.size = bd at HS HW hbd ⊢
  go_wp2
  go_loopw [8] (fun vr wr => ∃ (r : Nat) (dk : Array (Int × Int)), vr = .int .i64 r ∧ r ≤ n ∧ Hid (dk.size = n) ∧ Hid (Sl W w wr blk dk bd Bs sb) ∧ Hid (siftDown ltP hi F r dk = siftDown ltP hi F r0 d)) (fun vr _ => hi - (intOf vr).toNat)
  case atStart => exact ⟨r0, d, rfl, hr, hide hd, HS, hide rfl⟩
  case round =>
    clear HS
    obtain ⟨r, dk, rfl, hrn, HD, HT, HO⟩ := hrel
    by_cases hc : hi ≤ 2 * r + 1
    · have hci : (hi : Int) ≤ 2 * (r : Int) + 1 := by omega
      go_wp2
      refine bodyPost_end (results_none rfl _ _ _) rfl ?_
      exact ⟨rfl, by rw [← HO.out, sift_stop hc]; exact HT.out.sw, HT.out.kq⟩
    · have hci : ¬ (hi : Int) ≤ (2 : Int) * (r : Int) + 1 := by omega
      have c0 := HT.out.bx.cell 0
      have c1 := HT.out.bx.cell 1
      by_cases hc2 : 2 * r + 1 + 1 < hi
      · have hc2i : (2 : Int) * (r : Int) + 1 + 1 < (hi : Int) := by omega
        have hl := HL.out wr dk HT.out.sw HD.out (F + (2 * r + 1)) (F + (2 * r + 1) + 1) (by omega) (by omega)
        rw [show ((F + (2 * r + 1) : Nat) : Int) = (F : Int) + (2 * (r : Int) + 1) by omega, show ((F + (2 * r + 1) + 1 : Nat) : Int) = (F : Int) + (2 * (r : Int) + 1) + 1 by omega] at hl
        cases hlv : ltP dk[F + (2 * r + 1)]! dk[F + (2 * r + 1) + 1]! with
        | true =>
          rw [hlv] at hl
          have HLL := hide hl
          have HLV := hide hlv
          clear hl hlv
          go_upto_region 6 with (go_at_call 34; (with_reducible refine HLL.out.mono ?_); rintro e w2 ⟨rfl, hb2⟩; replace HT := hide (HT.out.below hb2 HB.out); clear hb2 c0 c1; have c0 := HT.out.bx.cell 0; have c1 := HT.out.bx.cell 1)
          have hm := HL.out w2 dk HT.out.sw HD.out (F + r) (F + (2 * r + 2)) (by omega) (by omega)
          rw [show ((F + r : Nat) : Int) = (F : Int) + (r : Int) by omega, show ((F + (2 * r + 2) : Nat) : Int) = (F : Int) + (2 * (r : Int) + 1 + 1) by omega] at hm
          cases hmv : ltP dk[F + r]! dk[F + (2 * r + 2)]! with
          | false =>
            rw [hmv] at hm
            have HM := hide hm
            have HE := hide (show siftDown ltP hi F r dk = dk by rw [sift_right hc2 HLV.out, if_neg (by rw [hmv]; decide)])
            clear hm hmv
            go_wp2_with (go_at_call 34; (with_reducible refine HM.out.mono ?_); rintro e w3 ⟨rfl, hb2⟩; replace HT := hide (HT.out.below hb2 HB.out); clear hb2 c0 c1)
            refine bodyPost_ret (results_none rfl _ _ _) rfl ?_
            exact ⟨rfl, by rw [← HO.out, HE.out]; exact HT.out.sw, HT.out.kq⟩
          | true =>
            rw [hmv] at hm
            have HM := hide hm
            have HE := hide (show siftDown ltP hi F r dk = siftDown ltP hi F (2 * r + 2) (swp dk (F + r) (F + (2 * r + 2))) by rw [sift_right hc2 HLV.out, if_pos hmv])
            clear hm hmv
            go_upto_region 7 with (go_at_call 34; (with_reducible refine HM.out.mono ?_); rintro e w3 ⟨rfl, hb2⟩; replace HT := hide (HT.out.below hb2 HB.out); clear hb2 c0 c1; have c0 := HT.out.bx.cell 0; have c1 := HT.out.bx.cell 1)
            obtain ⟨w4, hs, HT3⟩ := HW.out w3 dk HT.out HD.out (F + r) (F + (2 * r + 2)) (by omega) (by omega)
            rw [show ((F + r : Nat) : Int) = (F : Int) + (r : Int) by omega, show ((F + (2 * r + 2) : Nat) : Int) = (F : Int) + (2 * (r : Int) + 1 + 1) by omega] at hs
            replace HT3 := hide HT3
            go_wp2_with (first | (rw [hs, Oper.upon_value]) | fail)
            exact ⟨⟨(2 * r + 2), swp dk (F + r) (F + (2 * r + 2)), by go_num, by omega, hide (by rw [size_swp]; exact HD.out), HT3, hide (by rw [← HO.out, HE.out])⟩, by simp [intOf]; omega⟩
        | false =>
          rw [hlv] at hl
          have HLL := hide hl
          have HLV := hide hlv
          clear hl hlv
          go_upto_region 6 with (go_at_call 34; (with_reducible refine HLL.out.mono ?_); rintro e w2 ⟨rfl, hb2⟩; replace HT := hide (HT.out.below hb2 HB.out); clear hb2 c0 c1; have c0 := HT.out.bx.cell 0; have c1 := HT.out.bx.cell 1)
          have hm := HL.out w2 dk HT.out.sw HD.out (F + r) (F + (2 * r + 1)) (by omega) (by omega)
          rw [show ((F + r : Nat) : Int) = (F : Int) + (r : Int) by omega, show ((F + (2 * r + 1) : Nat) : Int) = (F : Int) + (2 * (r : Int) + 1) by omega] at hm
          cases hmv : ltP dk[F + r]! dk[F + (2 * r + 1)]! with
          | false =>
            rw [hmv] at hm
            have HM := hide hm
            have HE := hide (show siftDown ltP hi F r dk = dk by rw [sift_left (by omega) (Or.inr HLV.out), if_neg (by rw [hmv]; decide)])
            clear hm hmv
            go_wp2_with (go_at_call 34; (with_reducible refine HM.out.mono ?_); rintro e w3 ⟨rfl, hb2⟩; replace HT := hide (HT.out.below hb2 HB.out); clear hb2 c0 c1)
            refine bodyPost_ret (results_none rfl _ _ _) rfl ?_
            exact ⟨rfl, by rw [← HO.out, HE.out]; exact HT.out.sw, HT.out.kq⟩
          | true =>
            rw [hmv] at hm
            have HM := hide hm
            have HE := hide (show siftDown ltP hi F r dk = siftDown ltP hi F (2 * r + 1) (swp dk (F + r) (F + (2 * r + 1))) by rw [sift_left (by omega) (Or.inr HLV.out), if_pos hmv])
            clear hm hmv
            go_upto_region 7 with (go_at_call 34; (with_reducible refine HM.out.mono ?_); rintro e w3 ⟨rfl, hb2⟩; replace HT := hide (HT.out.below hb2 HB.out); clear hb2 c0 c1; have c0 := HT.out.bx.cell 0; have c1 := HT.out.bx.cell 1)
            obtain ⟨w4, hs, HT3⟩ := HW.out w3 dk HT.out HD.out (F + r) (F + (2 * r + 1)) (by omega) (by omega)
            rw [show ((F + r : Nat) : Int) = (F : Int) + (r : Int) by omega, show ((F + (2 * r + 1) : Nat) : Int) = (F : Int) + (2 * (r : Int) + 1) by omega] at hs
            replace HT3 := hide HT3
            go_wp2_with (first | (rw [hs, Oper.upon_value]) | fail)
            exact ⟨⟨(2 * r + 1), swp dk (F + r) (F + (2 * r + 1)), by go_num, by omega, hide (by rw [size_swp]; exact HD.out), HT3, hide (by rw [← HO.out, HE.out])⟩, by simp [intOf]; omega⟩
      · have hc2i : ¬ (2 : Int) * (r : Int) + 1 + 1 < (hi : Int) := by omega
        go_upto_region 6 with (fail)
        have hm := HL.out wr dk HT.out.sw HD.out (F + r) (F + (2 * r + 1)) (by omega) (by omega)
        rw [show ((F + r : Nat) : Int) = (F : Int) + (r : Int) by omega, show ((F + (2 * r + 1) : Nat) : Int) = (F : Int) + (2 * (r : Int) + 1) by omega] at hm
        cases hmv : ltP dk[F + r]! dk[F + (2 * r + 1)]! with
        | false =>
          rw [hmv] at hm
          have HM := hide hm
          have HE := hide (show siftDown ltP hi F r dk = dk by rw [sift_left (by omega) (Or.inl hc2), if_neg (by rw [hmv]; decide)])
          clear hm hmv
          go_wp2_with (go_at_call 34; (with_reducible refine HM.out.mono ?_); rintro e w3 ⟨rfl, hb2⟩; replace HT := hide (HT.out.below hb2 HB.out); clear hb2 c0 c1)
          refine bodyPost_ret (results_none rfl _ _ _) rfl ?_
          exact ⟨rfl, by rw [← HO.out, HE.out]; exact HT.out.sw, HT.out.kq⟩
        | true =>
          rw [hmv] at hm
          have HM := hide hm
          have HE := hide (show siftDown ltP hi F r dk = siftDown ltP hi F (2 * r + 1) (swp dk (F + r) (F + (2 * r + 1))) by rw [sift_left (by omega) (Or.inl hc2), if_pos hmv])
          clear hm hmv
          go_upto_region 7 with (go_at_call 34; (with_reducible refine HM.out.mono ?_); rintro e w3 ⟨rfl, hb2⟩; replace HT := hide (HT.out.below hb2 HB.out); clear hb2 c0 c1; have c0 := HT.out.bx.cell 0; have c1 := HT.out.bx.cell 1)
          obtain ⟨w4, hs, HT3⟩ := HW.out w3 dk HT.out HD.out (F + r) (F + (2 * r + 1)) (by omega) (by omega)
          rw [show ((F + r : Nat) : Int) = (F : Int) + (r : Int) by omega, show ((F + (2 * r + 1) : Nat) : Int) = (F : Int) + (2 * (r : Int) + 1) by omega] at hs
          replace HT3 := hide HT3
          go_wp2_with (first | (rw [hs, Oper.upon_value]) | fail)
          exact ⟨⟨(2 * r + 1), swp dk (F + r) (F + (2 * r + 1)), by go_num, by omega, hide (by rw [size_swp]; exact HD.out), HT3, hide (by rw [← HO.out, HE.out])⟩, by simp [intOf]; omega⟩
end
end Go.Proofs.YtiaegloipnhhdaaGreat
/- sort's heapSort_func over instances. Conditions: the row lies in memory; places are within it. -/
namespace Go.Proofs.YtiaegloipnhhdaaGreat
set_option maxRecDepth 100000
open Go.RowKit Go.Maps Go.Shelf Go.Sort Go.Lib
section
variable {W w : World} {blk Bs n : Nat} {d : Array (Int × Int)} {sb : Array Value}
theorem size_sift {hi F r : Nat} {d : Array (Int × Int)} : (siftDown ltP hi F r d).size = d.size := size_siftDown ltP hi F _ r d (Nat.le_refl _)
theorem size_build (hi F : Nat) : ∀ (k : Nat) (d : Array (Int × Int)), (heapBuild ltP hi F k d).size = d.size
  | 0, _ => rfl
  | k + 1, d => by
    show (heapBuild ltP hi F k (siftDown ltP hi F k d)).size = _
    rw [size_build hi F k, size_sift]
set_option maxHeartbeats 16000000 in
theorem pheap_any (C : Cx W blk Bs n sb) (S : Sw W blk d w) (hd : d.size = n) {a b : Nat} (hab : a < b) (hbn : b ≤ n) :
    Calls Tryz.prog 111 #[.agg #[.func (.func 34) #[] #[.pointer (some ⟨Bs, 0, none⟩)], .func (.func 107) #[] sb], .int .i64 a, .int .i64 b] w fun e w' => e = .returned (.tuple #[]) ∧ Sw W blk (heapSort ltP d a b) w' ∧ Kq (fun k => k = blk) w w' := by
  have HF := hide (fun (w' : World) (d' : Array (Int × Int)) (h : Sw W blk d' w') (hd' : d'.size = n) (r hi F : Nat) (hr : r ≤ n) (hF : F + hi ≤ n) => psift_any C h hd' (r0 := r) (hi := hi) (F := F) hr hF)
  have HS := hide (show Sl W w (w.alloc (.cells #[.func (.func 34) #[] #[.pointer (some ⟨Bs, 0, none⟩)], .func (.func 107) #[] sb] 117)) blk d w.heap.size Bs sb from ⟨S.below (kept_alloc (kept_refl w) _) C.hb, .of_below (kept_alloc (kept_refl w) _), Row.new w _ _⟩)
  have hbd : w.heap.size ≠ blk := by have := C.hb; have := S.kq.size; omega
  have hn := C.hn
  have HL := hide (fun (w' : World) (d' : Array (Int × Int)) (h : Sw W blk d' w') (hd : d'.size = n) (i j : Nat) (hi : i < n) (hj : j < n) => less_any C h hd hi hj)
  have HW := hide (fun (w' : World) (d' : Array (Int × Int)) (h : Sl W w w' blk d' w.heap.size Bs sb) (hd : d'.size = n) (i j : Nat) (hi : i < n) (hj : j < n) => h.swap C hd hbd hi hj)
  have HB := hide C.hb
  clear S C
  go_enter Tryz.func111, Tryz.ntmps111
  go_upto_region 1 with (fail)
  generalize w.alloc (.cells #[.func (.func 34) #[] #[.pointer (some ⟨Bs, 0, none⟩)], .func (.func 107) #[] sb] 117) = w1 at HS ⊢
  generalize w.heap.size = bd at HS HW hbd ⊢
  clear HL
  obtain ⟨m, hm⟩ : ∃ m : Nat, b = a + m := ⟨b - a, by omega⟩
  have hm0 : 0 < m := by omega
  have HHS := hide (show heapSort ltP d a b = heapPop ltP a m (heapBuild ltP m a ((m - 1) / 2 + 1) d) by unfold heapSort; rw [show b - a = m by omega])
  have e2 : (b : Int) - (a : Int) = (m : Int) := by omega
  have HMB := hide hm
  have hmn : a + m ≤ n := by omega
  clear hm hab
  have e3 : ((m : Int) - 1).tdiv 2 = (((m - 1) / 2 : Nat) : Int) := by
    rw [Int.tdiv_eq_ediv_of_nonneg (by omega)]
    omega
  have hD0 := hide hd
  go_wp2
  try rw [e3]
  clear e2 e3
  go_loopw [9] (fun vi wr => ∃ (k : Nat) (dk : Array (Int × Int)), vi = .int .i64 ((k : Int) - 1) ∧ k ≤ (m - 1) / 2 + 1 ∧ Hid (dk.size = n) ∧ Hid (Sl W w wr blk dk bd Bs sb) ∧ Hid (heapBuild ltP m a k dk = heapBuild ltP m a ((m - 1) / 2 + 1) d)) (fun vi _ => (intOf vi + 1).toNat)
  case atStart => exact ⟨(m - 1) / 2 + 1, d, by go_num, Nat.le_refl _, hD0, HS, hide rfl⟩
  case round =>
    clear HS
    obtain ⟨k, dk, rfl, hk, HD, HT, HO⟩ := hrel
    have c0 := HT.out.bx.cell 0
    have c1 := HT.out.bx.cell 1
    by_cases hk0 : 0 < k
    · have hki : (k : Int) - 1 ≥ 0 := by omega
      have hf := HF.out wr dk HT.out.sw HD.out (k - 1) m a (by omega) (by omega)
      rw [show ((k - 1 : Nat) : Int) = (k : Int) - 1 by omega] at hf
      have HFF := hide hf
      clear hf
      go_wp2_with (go_at_call 129; (with_reducible refine HFF.out.mono ?_); rintro e w3 ⟨rfl, hs3, hk3⟩; replace HT := hide (HT.out.turn hs3 hk3 hbd); clear hs3 hk3 c0 c1)
      go_roundw
      case rel => exact ⟨k - 1, _, by go_num, by omega, hide (by rw [size_sift]; exact HD.out), HT, hide (by
        rw [← HO.out]
        obtain ⟨k', rfl⟩ : ∃ k', k = k' + 1 := ⟨k - 1, by omega⟩
        rfl)⟩
      case measure => simp [intOf]; omega
    · have hki : ¬ (k : Int) - 1 ≥ 0 := by omega
      have hk00 : k = 0 := by omega
      have HB2 := hide (show heapSort ltP d a b = heapPop ltP a m dk by rw [HHS.out, ← HO.out, hk00]; rfl)
      have HS2 := HT
      have HD2 := HD
      obtain ⟨D, hD⟩ : ∃ D, dk = D := ⟨_, rfl⟩
      rw [hD] at HB2 HS2 HD2
      clear HT HO HD hD c0 c1 HHS hD0 hk00 hk0
      go_wp2
      go_loopw [10] (fun vi wr => ∃ (k : Nat) (dk : Array (Int × Int)), vi = .int .i64 ((k : Int) - 1) ∧ k ≤ m ∧ Hid (dk.size = n) ∧ Hid (Sl W w wr blk dk bd Bs sb) ∧ Hid (heapPop ltP a k dk = heapPop ltP a m D)) (fun vi _ => (intOf vi + 1).toNat)
      case atStart => exact ⟨m, D, by go_num, Nat.le_refl _, HD2, HS2, hide rfl⟩
      case round =>
        clear HS2 HD2 hki hk
        obtain ⟨k, dk, rfl, hk, HD, HT, HO⟩ := hrel
        have c0 := HT.out.bx.cell 0
        have c1 := HT.out.bx.cell 1
        by_cases hk0 : 0 < k
        · have hki : (k : Int) - 1 ≥ 0 := by omega
          obtain ⟨w2, hs, HT2⟩ := HW.out wr dk HT.out HD.out a (a + (k - 1)) (by omega) (by omega)
          rw [show ((a + (k - 1) : Nat) : Int) = (a : Int) + ((k : Int) - 1) by omega] at hs
          have hf := HF.out w2 (swp dk a (a + (k - 1))) HT2.sw (by rw [size_swp]; exact HD.out) 0 (k - 1) a (by omega) (by omega)
          rw [show ((k - 1 : Nat) : Int) = (k : Int) - 1 by omega, show ((0 : Nat) : Int) = 0 from rfl] at hf
          have HFF := hide hf
          replace HT2 := hide HT2
          have d0 := HT2.out.bx.cell 0
          have d1 := HT2.out.bx.cell 1
          clear hf
          go_wp2_with (first
            | (rw [hs, Oper.upon_value])
            | (go_at_call 129; (with_reducible refine HFF.out.mono ?_); rintro e w3 ⟨rfl, hs3, hk3⟩; replace HT2 := hide (HT2.out.turn hs3 hk3 hbd); clear hs3 hk3 c0 c1 d0 d1))
          go_roundw
          case rel => exact ⟨k - 1, _, by go_num, by omega, hide (by rw [size_sift, size_swp]; exact HD.out), HT2, hide (by
            rw [← HO.out]
            obtain ⟨k', rfl⟩ : ∃ k', k = k' + 1 := ⟨k - 1, by omega⟩
            rfl)⟩
          case measure => simp [intOf]; omega
        · have hki : ¬ (k : Int) - 1 ≥ 0 := by omega
          have hk00 : k = 0 := by omega
          have HE := hide (show heapSort ltP d a b = dk by rw [HB2.out, ← HO.out, hk00]; rfl)
          clear hk00 hk0
          go_wp2
          refine bodyPost_end (results_none rfl _ _ _) rfl ?_
          exact ⟨rfl, by rw [HE.out]; exact HT.out.sw, HT.out.kq⟩
end
end Go.Proofs.YtiaegloipnhhdaaGreat
