/- Sort and Compact of a call's own ints, and what the list then is: rising, with just the same elements; the iterator Backward over it. Conditions as they stand. -/
import Derived.Test.YtkmcnhjfnjikaaaGreatDoorVsta
import Derived.Test.YtkmcnhjfnjikaaaGreatDoorKfrb
import Derived.Sort.OwnSortedInts
import Derived.Lib.OwnBridge
import Derived.RangeFuncBox
import Derived.RangeFuncFrom
import Derived.RangeFuncLeaves
import Derived.RangeFuncCalls
import Derived.OwnWalkIn
import Derived.TacticsInMore
import Derived.LoopNIn
import Derived.LoopIn
import Derived.Shelf.Abstract
import Derived.Test.YtkmcnhjfnjikaaaGreatDoorVrea
import Derived.RangeFuncNested
namespace Go.Proofs.YtkmcnhjfnjikaaaGreatDoor
open Go.RowKit Go.Maps Go.Sort
def srt (zs : List Int) : List Int := zs.mergeSort fun x y => decide (x ≤ y)
def cps (zs : List Int) : List Int := Lib.compact (srt zs)
theorem length_srt (zs : List Int) : (srt zs).length = zs.length := List.length_mergeSort zs
theorem sortI_any {w : World} {base n : Nat} {v : Value} {zs : List Int} (h : w.ownsRow base 3 1 v n (zs.map (Value.int .i64))) (hn : n < 4611686018427387904) (hb : base ≤ w.heap.size) :
    Calls Tryz.prog 74 #[v] w fun e w' => e = .returned (.tuple #[]) ∧ w'.ownsRow base 3 1 v n ((srt zs).map (Value.int .i64)) ∧ Below base w w' := by
  have hl : zs.length = n := by simpa using h.1
  rcases h.2 with ⟨rfl, h0⟩ | ⟨g, cap, cur, rfl, hbase, hg, h1, h2, h3, h4⟩
  · subst h0
    have : zs = [] := List.eq_nil_of_length_eq_zero hl
    subst this
    refine (AnyM.slices_Sort_int_none Tryz.laySortI none 0 w).mono fun e w' ⟨he, hw⟩ => ?_
    subst hw
    exact ⟨he, by rw [show srt [] = [] by unfold srt; simp]; exact World.ownsRow_nil _ _ _ _, Below.refl _ _⟩
  · subst hl
    have hH := holds_of_blockI hg (ss := zs) (by rw [← h4, Nat.mul_one])
    refine (AnyM.slices_Sort_int Tryz.laySortI g 0 cap zs w hH (Array.getElem?_eq_some_iff.1 hg).1 hn).mono fun e w' ⟨he, k, os, hw⟩ => ?_
    subst hw
    exact ⟨he, ownsRow_sortedI (ts := srt zs) (length_srt zs) hbase hg h1 h2 h3, (Below.refl _ _).grown (grownBy_sortedI _) hb (fun j hj => by cases hj; exact hbase)⟩
theorem compactI_any {w : World} {base n : Nat} {v : Value} {zs : List Int} (h : w.ownsRow base 3 1 v n (zs.map (Value.int .i64))) (hn : n < 4611686018427387904) (hb : base ≤ w.heap.size) :
    Calls Tryz.prog 76 #[v] w fun e w' => ∃ v', e = .returned v' ∧ w'.ownsRow base 3 1 v' (Lib.compact zs).length ((Lib.compact zs).map (Value.int .i64)) ∧ Below base w w' := by
  have hl : zs.length = n := by simpa using h.1
  rcases h.2 with ⟨rfl, h0⟩ | ⟨g, cap, cur, rfl, hbase, hg, h1, h2, h3, h4⟩
  · subst h0
    have : zs = [] := List.eq_nil_of_length_eq_zero hl
    subst this
    refine (AnyG.slices_Compact_int_empty Tryz.layCompactI none 0 w).mono fun e w' ⟨he, hw⟩ => ?_
    subst hw
    exact ⟨_, he, World.ownsRow_nil _ _ _ _, Below.refl _ _⟩
  · subst hl
    have hH := holds_of_blockI hg (ss := zs) (by rw [← h4, Nat.mul_one])
    have hle := Lib.compact_length_le zs
    refine (AnyG.slices_Compact_int Tryz.layCompactI g 0 cap zs w hH (by omega) h1).mono fun e w' ⟨he, q, hw⟩ => ?_
    subst hw
    have hc := Lib.ownsRow_putRow (q := q) (k := (Lib.compact zs).length) (ys := Lib.compact zs ++ List.replicate (zs.length - (Lib.compact zs).length) 0) h (by simp; omega) (by omega)
    rw [List.take_left] at hc
    exact ⟨_, he, hc, Lib.below_putRow (Below.refl _ _) hbase⟩
/-! ### the list -/
theorem sublist_compact (zs : List Int) : (Lib.compact zs).Sublist zs := by
  unfold Lib.compact Lib.compactUpTo
  have h1 : ((List.range zs.length).filter (Lib.keeps zs.toArray)).Sublist (List.range zs.length) := List.filter_sublist
  have h2 : (List.range zs.length).map (fun i => zs.toArray[i]!) = zs := by
    apply List.ext_getElem
    · simp
    · intro i h1 h2
      simp [h2]
  have h3 := h1.map (fun i => zs.toArray[i]!)
  rw [h2] at h3
  exact h3
theorem mem_compact {zs : List Int} {x : Int} : x ∈ Lib.compact zs ↔ x ∈ zs := by
  constructor
  · exact fun h => (sublist_compact zs).subset h
  · intro h
    have key : ∀ j, j < zs.length → ∀ x, zs.toArray[j]! = x → x ∈ Lib.compact zs := by
      intro j
      induction j with
      | zero =>
        intro hj x hx
        unfold Lib.compact Lib.compactUpTo
        refine List.mem_map.2 ⟨0, List.mem_filter.2 ⟨List.mem_range.2 hj, Lib.keeps_lt_one _ 0 (by omega)⟩, hx⟩
      | succ j ih =>
        intro hj x hx
        by_cases he : zs.toArray[j + 1]! = zs.toArray[j]!
        · exact ih (by omega) x (by rw [← he]; exact hx)
        · unfold Lib.compact Lib.compactUpTo
          exact List.mem_map.2 ⟨j + 1, List.mem_filter.2 ⟨List.mem_range.2 hj, Lib.keeps_pos he⟩, hx⟩
    obtain ⟨j, hj, rfl⟩ := List.getElem_of_mem h
    exact key j hj _ (by rw [getElem!_pos _ j (by simpa using hj)]; simp)
theorem cps_rise (zs : List Int) : (cps zs).Pairwise (fun x y => x ≤ y) := by
  have h := List.pairwise_mergeSort (le := fun x y : Int => decide (x ≤ y)) (fun a b c h1 h2 => by simp at *; omega) (fun a b => by simp; omega) zs
  exact (List.Pairwise.sublist (sublist_compact _) h).imp (fun h => by simpa using h)
theorem mem_cps {zs : List Int} {x : Int} : x ∈ cps zs ↔ x ∈ zs := by
  unfold cps; rw [mem_compact]; exact (List.mergeSort_perm zs _).mem_iff
theorem length_cps (zs : List Int) : (cps zs).length ≤ zs.length := by
  have := Lib.compact_length_le (srt zs)
  rw [length_srt] at this
  exact this
end Go.Proofs.YtkmcnhjfnjikaaaGreatDoor
/- slices.Backward over ints that lie in memory: what it gives. Condition: the list has room. -/
namespace Go.Proofs.YtkmcnhjfnjikaaaGreatDoor
open Go.RowKit Go.Maps Go.Shelf
attribute [local go_sem] Oper.semAt_some
/-- What has come when k rounds are over. -/
def upto {α : Type} (f : Nat → α) (k : Nat) : List α := (List.range k).map f
theorem upto_succ {α : Type} (f : Nat → α) (k : Nat) : upto f (k + 1) = upto f k ++ [f k] := by simp [upto, List.range_succ]
theorem upto_length {α : Type} (f : Nat → α) (k : Nat) : (upto f k).length = k := by simp [upto]
/-- The pair that comes in round k. -/
def bkw (zs : List Int) (k : Nat) : Int × Int := (((zs.length - 1 - k : Nat) : Int), (zs[zs.length - 1 - k]?).getD 0)
set_option maxRecDepth 100000 in
set_option maxHeartbeats 2000000 in
theorem back_in {α : Type} (pr : α → Int × Int) (f : Nat → α) (F : Fence) (n : Nat) (h8 : F.fn 104) (hro : F.round = none) (hn : 1 ≤ n) (l Bs n₀ cap : Nat) (A : Option Addr) (zs : List Int) (hreach : zs.length ≤ 1000000) (hB : Bs < n₀) (hb : ∀ a, A = some a → a.block < n₀) (hf : ∀ k, k < zs.length → pr (f k) = bkw zs k) (J Jx : List α → World → Prop)
    (hY : ∀ pre x W, J pre W → pre.length < zs.length → YieldAt F (n - 1) Tryz.prog l #[.int .i64 (pr x).1, .int .i64 (pr x).2] W fun e W' =>
      (e = .returned (.bool true) ∧ J (pre ++ [x]) W' ∧ Below n₀ W W') ∨ (e = .returned (.bool false) ∧ Jx (pre ++ [x]) W'))
    (W : World) (hBs : W.cell? ⟨Bs, 0, none⟩ = some (.slice A zs.length cap)) (hc : ∀ j, j < zs.length → ∃ b, A = some ⟨b, 0, none⟩ ∧ W.cell? ⟨b, j, none⟩ = some (.int .i64 ((zs[j]?).getD 0))) (h0 : J [] W) :
    CallsIn F n Tryz.prog 104 #[.func (.yield l) #[] #[], .pointer (some ⟨Bs, 0, none⟩)] W fun e W' => (∃ v, e = .returned v) ∧
      ((∃ ys, ys = upto f zs.length ∧ J ys W') ∨ (∃ pre, (∃ k, k < zs.length ∧ pre = upto f (k + 1)) ∧ Jx pre W')) := by
  have hfin := hide (show ∀ W', J (upto f zs.length) W' → (∃ ys, ys = upto f zs.length ∧ J ys W') ∨ (∃ pre, (∃ k, k < zs.length ∧ pre = upto f (k + 1)) ∧ Jx pre W') from fun W' h => .inl ⟨_, rfl, h⟩)
  have hstp := hide (show ∀ W' k, k < zs.length → Jx (upto f (k + 1)) W' → (∃ ys, ys = upto f zs.length ∧ J ys W') ∨ (∃ pre, (∃ k, k < zs.length ∧ pre = upto f (k + 1)) ∧ Jx pre W') from fun W' k hk h => .inr ⟨_, ⟨k, hk, rfl⟩, h⟩)
  have hY := hide hY
  have hc := hide hc
  refine callsIn_of_wp Tryz.func104 rfl h8 ?_ hro
  simp only [Tryz.ntmps104, List.size_toArray, List.length_cons, List.length_nil, Nat.reduceAdd, Nat.reduceSub, Array.replicate_succ, Array.replicate_zero, List.push_toArray, List.append_toArray, List.nil_append, List.cons_append]
  gi_wp2
  gi_loopw [3] (fun i wr => ∃ m k : Nat, m + k = zs.length ∧ i = .int .i64 ((m : Int) - 1) ∧ Hid (J (upto f k) wr) ∧ Hid (Below n₀ W wr))
    (fun i _ => (intOf i + 1).toNat)
  case atStart => exact ⟨zs.length, 0, rfl, rfl, h0, Below.refl _ _⟩
  case round =>
    obtain ⟨m, k, hk, rfl, hJs, hnx⟩ := hrel
    have hBs' := (hnx.out.cell (p := ⟨Bs, 0, none⟩) hB).trans hBs
    rcases m with _ | m
    · have hJs := hide (hfin.out wr (by rw [show zs.length = k by omega]; exact hJs.out))
      rw [show ((0 : Nat) : Int) - 1 = -1 from rfl]
      gi_wp2
      go_end0
      exact ⟨⟨_, rfl⟩, hJs.out⟩
    · rw [show ((m + 1 : Nat) : Int) - 1 = (m : Int) by omega]
      obtain ⟨b, rfl, hcx⟩ := hc.out m (by omega)
      have hcx' := (hnx.out.cell (p := ⟨b, m, none⟩) (hb ⟨b, 0, none⟩ rfl)).trans hcx
      have hbk : pr (f k) = ((m : Int), (zs[m]?).getD 0) := by rw [hf k (by omega)]; unfold bkw; rw [show zs.length - 1 - k = m by omega]
      obtain ⟨fn, tmps, assign, body, hy, hR⟩ := hY.out _ (f k) wr hJs.out (by rw [upto_length]; omega)
      rw [← upto_succ] at hR
      rw [hbk] at hy
      dsimp only at hy
      have hm0 : (0 : Int) ≤ (m : Int) := by omega
      have hm1 : (m : Int) < (zs.length : Int) := by omega
      have hwk : IntKind.i64.wrap ((m : Int) - 1) = (m : Int) - 1 := by rw [IntKind.wrap_i64]; omega
      have hR := hide hR
      clear hbk hcx
      gi_wp2
      refine hR.out.mono ?_
      rintro e W3 (⟨rfl, hJ3, hk3⟩ | ⟨rfl, hJx3⟩)
      · have hJ3 := hide hJ3
        have hk3 := hide hk3
        gi_wp2
        go_roundw
        case rel => exact ⟨m, k + 1, by omega, rfl, hJ3, hnx.out.trans hk3.out⟩
        case measure => simp [intOf]
      · have hJx3 := hide (hstp.out W3 k (by omega) hJx3)
        gi_wp2
        refine bodyPost_ret (results_none rfl _ _ _) rfl ?_
        exact ⟨⟨_, rfl⟩, hJx3.out⟩
set_option maxHeartbeats 1000000 in
theorem backward_in (F : Fence) (n : Nat) (h5 : F.fn 75) (hro : F.round = none) (a : Option Addr) (len cap : Nat) (w : World) :
    CallsIn F n Tryz.prog 75 #[.slice a len cap] w fun e w' => e = .returned (.func (.func 104) #[] #[.pointer (some ⟨w.heap.size, 0, none⟩)]) ∧ w' = w.alloc (.cells #[.slice a len cap] 44) := by
  refine callsIn_of_wp Tryz.func75 rfl h5 ?_ hro
  simp only [Tryz.ntmps75, List.size_toArray, List.length_cons, List.length_nil, Nat.reduceAdd, Nat.reduceSub, Array.replicate_succ, Array.replicate_zero, List.push_toArray, List.append_toArray, List.nil_append, List.cons_append]
  gi_wp2
  go_ret
  exact ⟨rfl, rfl⟩
theorem back_stops {α : Type} (pr : α → Int × Int) (f : Nat → α) (F : Fence) (n : Nat) (h8 : F.fn 104) (hro : F.round = none) (hn : 1 ≤ n) (Bs n₀ cap : Nat) (A : Option Addr) (zs : List Int) (hreach : zs.length ≤ 1000000) (w : World) (hBs : Bs < n₀) (hb : ∀ a, A = some a → a.block < n₀) (hf : ∀ k, k < zs.length → pr (f k) = bkw zs k) (hn₀ : n₀ ≤ w.heap.size)
    (hc : w.cell? ⟨Bs, 0, none⟩ = some (.slice A zs.length cap)) (hI : ∀ j, j < zs.length → ∃ b, A = some ⟨b, 0, none⟩ ∧ w.cell? ⟨b, j, none⟩ = some (.int .i64 ((zs[j]?).getD 0))) :
    SeqStopsK F n Tryz.prog 104 #[.pointer (some ⟨Bs, 0, none⟩)] (fun x : α => #[Value.int .i64 (pr x).1, Value.int .i64 (pr x).2]) (Below n₀) (fun ys => ys = upto f zs.length)
      (fun pre => ∃ k, k < zs.length ∧ pre = upto f (k + 1)) zs.length w := fun l J Jx W hW _ _ hY h0 => by
  refine back_in pr f F n h8 hro hn l Bs n₀ cap A zs hreach hBs hb hf J Jx hY W ((hW.cell (p := ⟨Bs, 0, none⟩) (show Bs < _ by omega)).trans hc) (fun j hj => ?_) h0
  obtain ⟨b, e, h⟩ := hI j hj
  refine ⟨b, e, (hW.cell (p := ⟨b, j, none⟩) ?_).trans h⟩
  have := hb _ e
  show b < _
  have : b < n₀ := this
  omega
end Go.Proofs.YtkmcnhjfnjikaaaGreatDoor
/- What package wal's newest comes to: the greatest whole generation. Conditions: the disk lies in memory as it must, has few files with small numbers. -/
namespace Go.Proofs.YtkmcnhjfnjikaaaGreatDoor
open Go.RowKit Go.Maps Go.Shelf
attribute [local go_sem] Oper.semAt_some
/-- The generations of these segments. -/
def gensI (l : List (Nat × Nat)) : List Int := l.map fun x => (x.1 : Int)
/-- Is a generation whole, by its number. -/
noncomputable def whI (l : List Fl) (x : Int) : Bool := whole l x.toNat
theorem Tryz.info3 : (Tryz.prog.info? 3).map (fun i => (i.zero, i.size, i.bytes)) = some (some (.int .i64 0), 1, 8) := by kernel_rfl
theorem whole_find {l : List Fl} {g : Nat} (h : whole l g = true) : (find (segN g 1) l).isSome = true := by
  unfold whole gen rd at h
  cases hf : find (segN g 1) l with
  | some _ => rfl
  | none => rw [hf] at h; simp [wholeG, Gs.zero] at h
theorem whole_mem {l : List Fl} {g : Nat} (hg : 1 ≤ g ∧ g < 100) (h : whole l g = true) : (g : Int) ∈ gensI (segsL (nms l)) := by
  have h1 := whole_find h
  cases hf : find (segN g 1) l with
  | none => rw [hf] at h1; cases h1
  | some x =>
    obtain ⟨hx, hn⟩ := find_mem hf
    unfold gensI
    refine List.mem_map.2 ⟨(g, 1), ?_, rfl⟩
    unfold segsL
    refine List.mem_filter.2 ⟨List.mem_map.2 ⟨segN g 1, ?_, segOf_segN hg (by omega)⟩, by simp; omega⟩
    unfold nms
    exact List.mem_map.2 ⟨x, hx, hn⟩
theorem gens_small {m : Nat} {l : List Fl} (h : Sm m l) (hm : m ≤ 60) {x : Int} (hx : x ∈ gensI (segsL (nms l))) : ∃ g : Nat, x = g ∧ 1 ≤ g ∧ g < 100 := by
  unfold gensI segsL at hx
  obtain ⟨y, hy, rfl⟩ := List.mem_map.1 hx
  obtain ⟨hy, h0⟩ := List.mem_filter.1 hy
  obtain ⟨s, hs, rfl⟩ := List.mem_map.1 hy
  unfold nms at hs
  obtain ⟨f, hf, rfl⟩ := List.mem_map.1 hs
  rcases h.nm f hf with ⟨g, k, hg, hk, e⟩ | e
  · rw [e, segOf_segN (by omega) (by omega)]
    exact ⟨g, rfl, by omega, by omega⟩
  · rw [e] at h0; simp at h0
/-- What has come in the first k rounds: the greatest ones. -/
theorem upto_bkw (zs : List Int) {k : Nat} (hk : k ≤ zs.length) {x : Int} : (∃ i, (i, x) ∈ upto (bkw zs) k) ↔ ∃ j, zs.length - k ≤ j ∧ j < zs.length ∧ zs[j]? = some x := by
  unfold upto bkw
  constructor
  · rintro ⟨i, h⟩
    obtain ⟨r, hr, e⟩ := List.mem_map.1 h
    have hr := List.mem_range.1 hr
    injection e with e1 e2
    refine ⟨zs.length - 1 - r, by omega, by omega, ?_⟩
    rw [List.getElem?_eq_getElem (by omega)] at e2 ⊢
    simpa using e2
  · rintro ⟨j, h1, h2, h3⟩
    refine ⟨((zs.length - 1 - (zs.length - 1 - j) : Nat) : Int), List.mem_map.2 ⟨zs.length - 1 - j, List.mem_range.2 (by omega), ?_⟩⟩
    have : zs.length - 1 - (zs.length - 1 - j) = j := by omega
    rw [this, h3]; rfl
theorem pick_found {l : List Fl} {zs : List Int} (hr : zs.Pairwise fun x y => x ≤ y) (hs : ∀ x, x ∈ zs → ∃ g : Nat, x = g ∧ 1 ≤ g ∧ g < 100) (hw : ∀ g : Nat, 1 ≤ g → g < 100 → whole l g = true → (g : Int) ∈ zs) {k g : Nat} (hk : k < zs.length) {i : Int}
    (e : bkw zs k = (i, (g : Int))) (hg : whole l g = true) (hn : ∀ y, y ∈ upto (bkw zs) k → whI l y.2 = false) : best l 99 = g := by
  have hgz : zs[zs.length - 1 - k]? = some (g : Int) := by
    unfold bkw at e
    injection e with _ e
    rw [List.getElem?_eq_getElem (by omega)] at e ⊢
    simpa using e
  obtain ⟨g', e1, h1, h2⟩ := hs _ (List.mem_of_getElem? hgz)
  have e1 : g = g' := by omega
  subst e1
  refine best_is (by omega) (fun _ => hg) fun j hj hj2 => ?_
  cases hwj : whole l j with
  | false => rfl
  | true =>
    have hm := hw j (by omega) (by omega) hwj
    obtain ⟨q, hq, e2⟩ := List.getElem_of_mem hm
    have hq2 : zs.length - k ≤ q := by
      rcases Nat.lt_or_ge q (zs.length - k) with h3 | h3
      · exfalso
        rw [List.getElem?_eq_getElem (by omega)] at hgz
        have hgz : zs[zs.length - 1 - k] = (g : Int) := by simpa using hgz
        rcases Nat.lt_or_ge q (zs.length - 1 - k) with h4 | h4
        · have := List.pairwise_iff_getElem.1 hr q (zs.length - 1 - k) hq (by omega) h4
          omega
        · have : q = zs.length - 1 - k := by omega
          subst this
          omega
      · exact h3
    obtain ⟨i2, hi2⟩ := (upto_bkw zs (k := k) (by omega) (x := (j : Int))).2 ⟨q, hq2, hq, by rw [List.getElem?_eq_getElem hq, e2]⟩
    have := hn _ hi2
    unfold whI at this
    simp only [Int.toNat_natCast] at this
    rw [hwj] at this; cases this
theorem pick_none {l : List Fl} {zs : List Int} (hw : ∀ g : Nat, 1 ≤ g → g < 100 → whole l g = true → (g : Int) ∈ zs) (hn : ∀ y, y ∈ upto (bkw zs) zs.length → whI l y.2 = false) : best l 99 = 0 := by
  refine best_is (by omega) (fun h => absurd rfl h) fun j hj hj2 => ?_
  cases hwj : whole l j with
  | false => rfl
  | true =>
    have hm := hw j (by omega) (by omega) hwj
    obtain ⟨q, hq, e2⟩ := List.getElem_of_mem hm
    obtain ⟨i2, hi2⟩ := (upto_bkw zs (k := zs.length) (by omega) (x := (j : Int))).2 ⟨q, by omega, hq, by rw [List.getElem?_eq_getElem hq, e2]⟩
    have := hn _ hi2
    unfold whI at this
    simp only [Int.toNat_natCast] at this
    rw [hwj] at this; cases this
abbrev G99 := { y : Int × Int // 1 ≤ y.2 ∧ y.2 < 100 }
def g99 (zs : List Int) (h : ∀ x, x ∈ zs → ∃ g : Nat, x = g ∧ 1 ≤ g ∧ g < 100) (k : Nat) : G99 :=
  if hk : k < zs.length then ⟨bkw zs k, by
    unfold bkw
    rw [List.getElem?_eq_getElem (by omega)]
    obtain ⟨g, e, h1, h2⟩ := h _ (List.getElem_mem (show zs.length - 1 - k < zs.length by omega))
    show 1 ≤ (zs[zs.length - 1 - k] : Int) ∧ (zs[zs.length - 1 - k] : Int) < 100
    omega⟩ else ⟨(0, 1), by decide⟩
theorem g99_is {zs : List Int} (h : ∀ x, x ∈ zs → ∃ g : Nat, x = g ∧ 1 ≤ g ∧ g < 100) : ∀ k, k < zs.length → (g99 zs h k).1 = bkw zs k := fun k hk => by
  unfold g99; rw [dif_pos hk]
theorem mem_g99 {zs : List Int} (h : ∀ x, x ∈ zs → ∃ g : Nat, x = g ∧ 1 ≤ g ∧ g < 100) {k : Nat} (hk : k ≤ zs.length) {y : Int × Int} (hy : y ∈ upto (bkw zs) k) : ∃ z, z ∈ upto (g99 zs h) k ∧ z.1 = y := by
  unfold upto at hy ⊢
  obtain ⟨r, hr, e⟩ := List.mem_map.1 hy
  have hr' := List.mem_range.1 hr
  exact ⟨_, List.mem_map.2 ⟨r, hr, rfl⟩, by rw [g99_is h r (by omega), e]⟩
theorem cell_one_new' (w : World) (x : Value) (t : TypeId) (n : Nat) (hn : n = w.heap.size) : ∀ j u, [x][j]? = some u → (w.alloc (.cells #[x] t)).cell? ((⟨n, 0, none⟩ : Addr).add j) = some u := by
  subst hn; exact cell_one_new w x t
theorem own_slice {w : World} {base n m : Nat} {e : TypeId} {v : Value} {xs : List Value} (h : w.ownsRow base e m v n xs) : ∃ A c, v = .slice A n c := by
  rcases h.2 with ⟨rfl, h0⟩ | ⟨g, cap, cur, rfl, _⟩
  · subst h0; exact ⟨none, 0, rfl⟩
  · exact ⟨_, _, rfl⟩
/-- The block of the answer holds the generation g. -/
structure ResG (l : List Fl) (w W : World) (g : Nat) (A : Option Addr) (c : Nat) : Prop where
  row : Row W (w.heap.size + 1) 82 #[.slice A (gen l g).L.tail.length c, .int .i64 g, .int .i64 (gen l g).k, .int .i64 (gen l g).u, .int .i64 (gen l g).n]
  le : (gen l g).L.tail.length ≤ c
  parts : PartsN w.heap.size W A (gen l g).L.tail
  low : Below w.heap.size w W
def ResIs (l : List Fl) (w W : World) (g : Nat) : Prop := ∃ A c, ResG l w W g A c
def Stop (l : List Fl) (w : World) (pre : List G99) (W : World) : Prop := ∃ (z : G99) (pre' : List G99), pre = pre' ++ [z] ∧ (∀ y, y ∈ pre' → whI l y.1.2 = false) ∧ whI l z.1.2 = true ∧ ResIs l w W z.1.2.toNat
theorem rows_own (g : Nat) (t : TypeId) (cs : Array Value) {X Y : World} {row : Option Nat} (h : Row X g t cs) (hg : X.grownBy Y row) (hr : ∀ r, row = some r → ∃ o : Obj, X.heap[r]? = some o ∧ o.isCells = false) : Row Y g t cs :=
  h.grown hg (fun e' => by obtain ⟨o, ho, hc⟩ := hr g e'.symm; rw [show X.heap[g]? = _ from h] at ho; cases ho; cases hc)
theorem PartsN.own {base : Nat} {X Y : World} {row : Option Nat} {A : Option Addr} {L : List (List Int)} (h : PartsN base X A L) (hg : X.grownBy Y row) (hr : ∀ r, row = some r → ∃ o : Obj, X.heap[r]? = some o ∧ o.isCells = false) : PartsN base Y A L := fun j p hj => by
  obtain ⟨b, off, e, hle, hlt, A', c', hc, hl, hf⟩ := h j p hj
  refine ⟨b, off, e, hle, Nat.lt_of_lt_of_le hlt hg.size, A', c', cell_kept hc hg hr, ⟨fun hn => ?_, hl.le, hl.nil⟩, fun a ha => ⟨(hf a ha).1, Nat.lt_of_lt_of_le (hf a ha).2 hg.size⟩⟩
  obtain ⟨q, o2, e1, hlt1, hc1⟩ := hl.lies hn
  exact ⟨q, o2, e1, Nat.lt_of_lt_of_le hlt1 hg.size, fun k hk => cell_kept (hc1 k hk) hg hr⟩
theorem stop_own (l : List Fl) (w : World) (B : Nat) (hB : w.heap.size ≤ B) : OwnFrom B (Stop l w) := fun pre X Y row hs hg hr => by
  obtain ⟨z, pre', e, h1, h2, A, c, R⟩ := hs
  have hr' : ∀ r, row = some r → ∃ o : Obj, X.heap[r]? = some o ∧ o.isCells = false := fun r e => (hr r e).2
  exact ⟨z, pre', e, h1, h2, A, c, rows_own _ _ _ R.row hg hr', R.le, R.parts.own hg hr', R.low.grown hg R.low.size (fun k e => by have := (hr k e).1; omega)⟩
theorem ints_cells {w : World} {base n c : Nat} {A : Option Addr} {zs : List Int} {e : TypeId} (h : w.ownsRow base e 1 (.slice A n c) n (zs.map (Value.int .i64))) : ∀ j, j < zs.length → ∃ b, A = some ⟨b, 0, none⟩ ∧ w.cell? ⟨b, j, none⟩ = some (.int .i64 ((zs[j]?).getD 0)) := fun j hj => by
  have hl : zs.length = n := by simpa using h.1
  rcases h.2 with ⟨hv, h0⟩ | ⟨g, cap, cur, hv, _⟩
  · omega
  · injection hv with h1
    refine ⟨g, h1, ?_⟩
    rw [h1] at h
    have := h.cellAt j (by omega)
    rw [this, List.getElem?_map, List.getElem?_eq_getElem hj]; rfl
theorem keeps_below {W W' : World} (h : Below W.heap.size W W') : KeepsOthers W W' := KeepsOthers.of_grownBy (grown_below h) (fun _ _ e => by cases e)
theorem snoc_all {l : List Fl} {pre : List G99} {z : G99} (h : ∀ y, y ∈ pre → whI l y.1.2 = false) (hz : whI l z.1.2 = false) : ∀ y, y ∈ pre ++ [z] → whI l y.1.2 = false := fun y hy => by
  rcases List.mem_append.1 hy with hy | hy
  · exact h y hy
  · have : y = z := by simpa using hy
    rw [this]; exact hz
theorem bkw_mem {zs : List Int} {k : Nat} (hk : k < zs.length) : (bkw zs k).2 ∈ zs := by
  unfold bkw
  rw [List.getElem?_eq_getElem (by omega)]
  exact List.getElem_mem _
theorem res_gen1 {fn : Func} {tmps : Array Value} {w : World} {a h : Nat} {v0 v1 v2 v3 v4 : Value} (hf : fn.results = #[.cell a 82]) (ht : tmps[a]? = some (.pointer (some ⟨h, 0, none⟩)))
    (R : Row w h 82 #[v0, v1, v2, v3, v4]) : (results fn tmps).run Tryz.prog w = .ok (.agg #[v0, v1, v2, v3, v4]) w := by
  have c0 := R.cell 0
  have c1 := R.cell 1
  have c2 := R.cell 2
  have c3 := R.cell 3
  have c4 := R.cell 4
  simp only [List.getElem?_toArray, List.getElem?_cons_zero, List.getElem?_cons_succ] at c0 c1 c2 c3 c4
  simp [results, hf, ht, go_sem, c0, c1, c2, c3, c4]
/-- What newest answers. -/
def NewestP (w : World) (d : DS) (e : Ending) (w' : World) : Prop :=
  Below w.heap.size w w' ∧ ((opG d = 0 ∧ e = .returned (.agg #[.slice none 0 0, .int .i64 0, .int .i64 0, .int .i64 0, .int .i64 0])) ∨
    (opG d ≠ 0 ∧ ∃ A c, e = .returned (.agg #[.slice A (opL d).length c, .int .i64 (opG d : Nat), .int .i64 (opZ d).k, .int .i64 (opZ d).u, .int .i64 (opZ d).n]) ∧ (opL d).length ≤ c ∧ PartsN w.heap.size w' A (opL d)))
set_option maxRecDepth 100000 in
set_option maxHeartbeats 2000000 in
theorem newest_any {X : Nat → Prop} {p m : Nat} {d : DS} {w : World} {A : Option Addr} {c : Nat} (h : Dq X w p d) (hs : Sm m d.l) (hm : m ≤ 60) (hA : SegsN 0 w A (segsL (nms d.l))) :
    Calls Tryz.prog 39 #[.pointer (some ⟨p, 0, none⟩), .slice A (segsL (nms d.l)).length c] w (NewestP w d) := by
  obtain ⟨i0, hi, hz0, hz1, hz2⟩ := info_parts Tryz.info3
  have hlen := segsL_len (nms d.l)
  have hnl : (nms d.l).length = d.l.length := length_nms d.l
  have hsl := hs.len
  refine (callsIn_wide (n := 6)).1 ?_
  refine callsIn_of_wp_marks Tryz.func39 rfl trivial ?_ rfl
  simp only [Tryz.ntmps39, List.size_toArray, List.length_cons, List.length_nil, Nat.reduceAdd, Nat.reduceSub, Array.replicate_succ, Array.replicate_zero, List.push_toArray, List.append_toArray, List.nil_append, List.cons_append]
  have hgs := hide (fun x (hx : x ∈ gensI (segsL (nms d.l))) => gens_small hs hm hx)
  have hwm := hide (fun (g : Nat) (h1 : 1 ≤ g) (h2 : g < 100) (hw : whole d.l g = true) => whole_mem ⟨h1, h2⟩ hw)
  have hgl : (gensI (segsL (nms d.l))).length = (segsL (nms d.l)).length := by unfold gensI; exact List.length_map _
  have hst := hide (show Below w.heap.size w ((w.alloc (.cells #[.pointer (some ⟨p, 0, none⟩)] 22)).alloc (.cells (genRow (.slice none 0 0) 0 0 0 0) 82)) ∧
      Row ((w.alloc (.cells #[.pointer (some ⟨p, 0, none⟩)] 22)).alloc (.cells (genRow (.slice none 0 0) 0 0 0 0) 82)) w.heap.size 22 #[.pointer (some ⟨p, 0, none⟩)] ∧
      Row ((w.alloc (.cells #[.pointer (some ⟨p, 0, none⟩)] 22)).alloc (.cells (genRow (.slice none 0 0) 0 0 0 0) 82)) (w.heap.size + 1) 82 (genRow (.slice none 0 0) 0 0 0 0) ∧
      ((w.alloc (.cells #[.pointer (some ⟨p, 0, none⟩)] 22)).alloc (.cells (genRow (.slice none 0 0) 0 0 0 0) 82)).heap.size = w.heap.size + 2 from
    ⟨((Below.refl w.heap.size w).alloc (Nat.le_refl _) _).alloc (by simp) _, (Row.new w _ _).alloc _, row_new' _ _ _ _ (by simp), by simp⟩)
  unfold genRow at hst
  have hgat := hide (fun (j : Nat) (y : Nat × Nat) (hj : (segsL (nms d.l))[j]? = some y) => show (gensI (segsL (nms d.l)))[j]? = some (y.1 : Int) by unfold gensI; rw [List.getElem?_map, hj]; rfl)
  have hA := hide hA
  generalize segsL (nms d.l) = ns at *
  generalize gensI ns = zs at *
  obtain ⟨vz, Hvz⟩ : ∃ vz, zs.map (Value.int .i64) = vz := ⟨_, rfl⟩
  have Hvl : vz.length = zs.length := by rw [← Hvz]; exact List.length_map _
  have Hvz := hide Hvz
  gi_wp2
  generalize hW2 : World.alloc _ _ = w2 at hst ⊢
  clear hW2
  have hsz2 := hst.out.2.2.2
  gi_loopw [5, 14] (fun l i wr => ∃ k : Nat, k ≤ ns.length ∧ i = .int .i64 k ∧ Hid (wr.ownsRow (w.heap.size + 2) 3 1 l k (vz.take k)) ∧ Hid (Below (w.heap.size + 2) w2 wr)) (fun _ i _ => ns.length - (intOf i).toNat)
  case atStart => exact ⟨0, by omega, rfl, World.ownsRow_nil _ _ _ _, Below.refl _ _⟩
  case round =>
    obtain ⟨k, hk, rfl, hown, hb⟩ := hrel
    have hszr := hb.out.size
    by_cases hlt : k < ns.length
    · obtain ⟨y, hy⟩ : ∃ y, ns[k]? = some y := ⟨ns[k], List.getElem?_eq_getElem hlt⟩
      obtain ⟨B, off, rfl, hB0, hBl, hc0, hc1⟩ := hA.out k y hy
      have hzk := hgat.out k y hy
      have hBw : B < w.heap.size := hBl
      have hBB := (hst.out.1.mono (show B + 1 ≤ w.heap.size by omega)).trans (hb.out.mono (by omega))
      have hc0' := (hBB.cell (p := ⟨B, off + k * 2, none⟩) (by show B < B + 1; omega)).trans hc0
      have hc1' := (hBB.cell (p := ⟨B, off + k * 2 + 1, none⟩) (by show B < B + 1; omega)).trans hc1
      have hstep := hide (show vz.take (k + 1) = vz.take k ++ [.int .i64 (y.1 : Nat)] by rw [List.take_add_one, ← Hvz.out, List.getElem?_map, hzk]; rfl)
      obtain ⟨y1, y2⟩ := y
      clear hzk hBB hc0 hc1 hy
      have ho2 := hide ((hown.out.alloc (.cells #[Value.int .i64 y1, Value.int .i64 y2] 80)).alloc (.cells #[Value.int .i64 (y1 : Nat)] 3))
      have hB2 := hide (((hb.out.alloc (by omega) (.cells #[Value.int .i64 y1, Value.int .i64 y2] 80)).alloc (by simp; omega) (.cells #[Value.int .i64 (y1 : Nat)] 3)))
      gi_wp2_with (gi_at_builtin; refine wpListIn_append_own _ rfl (.tmp 18) (.tmp 21) 44 rfl (w.heap.size + 2) 3 i0 (.int .i64 0) 1 8 Tryz.underlying44 hi hz0 hz1 hz2 rfl (by omega) _ k _ rfl ho2.out ⟨wr.heap.size + 1, 0, none⟩ 1 1 [.int .i64 (y1 : Nat)] rfl rfl (cell_one_new' _ _ _ _ (by simp)) (by intro u hu; rw [List.mem_singleton] at hu; subst hu; rfl) (by unfold maxLen; omega) (by omega) (by simp; omega) ?_)
      intro v4 w4 o4 g4 _
      have B4 := hide (hB2.out.grown g4 (by simp; omega) (fun k hk => (ho2.out.lt k hk).1))
      rw [← hstep.out] at o4
      have o4 := hide o4
      clear g4 ho2 hown hb hB2
      gi_wp2
      go_roundw
      case rel => exact ⟨k + 1, by omega, by go_num, o4, B4⟩
      case measure => simp [intOf]; omega
    · obtain rfl : k = ns.length := by omega
      have hzl : zs.length = ns.length := hgl
      have hown1 := hown.out
      rw [List.take_of_length_le (by omega), ← hzl, ← Hvz.out] at hown1
      have hown := hide hown1
      clear hown1
      have hB3 := hide (show Below w.heap.size w wr from hst.out.1.trans (hb.out.mono (by omega)))
      have hr0 := hide (hst.out.2.1.below hb.out (by omega))
      have hr1 := hide (hst.out.2.2.1.below hb.out (by omega))
      have hS := hide (sortI_any hown.out (by omega) (by omega))
      have hrise := hide (cps_rise zs)
      have hcl := length_cps zs
      have hmem := hide (fun x => mem_cps (zs := zs) (x := x))
      have hcm := hide (fun (u : World) (v : Value) (ho : u.ownsRow (w.heap.size + 2) 3 1 v zs.length ((srt zs).map (Value.int .i64))) (hu : w.heap.size + 2 ≤ u.heap.size) => compactI_any ho (by omega) hu)
      have hcps := hide (show Lib.compact (srt zs) = cps zs from rfl)
      rw [hcps.out] at hcm
      generalize cps zs = cs at *
      have hgs2 := hide (fun x (hx : x ∈ cs) => hgs.out x ((hmem.out x).1 hx))
      have hwm2 := hide (fun (g : Nat) (h1 : 1 ≤ g) (h2 : g < 100) (hw : whole d.l g = true) => (hmem.out (g : Int)).2 (hwm.out g h1 h2 hw))
      gi_wp2_with (first
        | (refine ⟨trivial, ?_⟩; gi_at_call 74; refine (callsIn_wide.2 hS.out).mono ?_; rintro e w3 ⟨rfl, o3, b3⟩; have hs3 := b3.size; have hC := hide (hcm.out w3 _ o3 (by omega)); have b3 := hide b3; clear o3)
        | (refine ⟨trivial, ?_⟩; gi_at_call 76; refine (callsIn_wide.2 hC.out).mono ?_; rintro e w4 ⟨v4, rfl, o4, b4⟩; have hs4 := b4.size; obtain ⟨A4, c4, rfl⟩ := own_slice o4; have o4 := hide o4; have b4 := hide b4)
        | (refine ⟨trivial, ?_⟩; gi_at_call 75; refine (backward_in Fence.wide _ trivial rfl _ _ _ _).mono ?_; rintro e w5 ⟨rfl, rfl⟩))
      have hlow := hide (((hB3.out.trans (b3.out.mono (by omega))).trans (b4.out.mono (by omega))).alloc (by omega) (.cells #[.slice A4 cs.length c4] 44))
      have hbox := hide ((hr0.out.below b3.out (by omega)).below b4.out (by omega) |>.alloc (.cells #[.slice A4 cs.length c4] 44))
      have hres := hide ((hr1.out.below b3.out (by omega)).below b4.out (by omega) |>.alloc (.cells #[.slice A4 cs.length c4] 44))
      have hbs := hide (show (w4.alloc (.cells #[.slice A4 cs.length c4] 44)).cell? ⟨w4.heap.size, 0, none⟩ = some (.slice A4 cs.length c4) from (Row.new w4 44 #[Value.slice A4 cs.length c4]).cell 0)
      have hcells := hide (show ∀ j, j < cs.length → ∃ b, A4 = some ⟨b, 0, none⟩ ∧ (w4.alloc (.cells #[.slice A4 cs.length c4] 44)).cell? ⟨b, j, none⟩ = some (.int .i64 ((cs[j]?).getD 0)) from ints_cells (o4.out.alloc _))
      have hA4 := hide (show ∀ a, A4 = some a → a.block < (w4.alloc (.cells #[.slice A4 cs.length c4] 44)).heap.size from fun a ha => by have := own_lt o4.out a ha; simp; omega)
      have hszW : (w4.alloc (.cells #[.slice A4 cs.length c4] 44)).heap.size = w4.heap.size + 1 := by simp
      generalize hW0 : w4.alloc (.cells #[.slice A4 cs.length c4] 44) = W0 at hlow hbox hres hbs hcells hA4 hszW ⊢
      clear hW0 hS hC hcm hown hst hA hgat hB3 hr0 hr1 hmem hcps hgs hwm o4 b3 b4 Hvz
      have hcl1 : cs.length ≤ 1000000 := by omega
      refine wpIn_rangeFunc_ownF rfl (by omega) (gf := 104) (lb := #[.pointer (some ⟨w4.heap.size, 0, none⟩)]) rfl trivial (enters_of Tryz.func104 (by kernel_rfl) rfl)
        (back_stops (fun x : G99 => x.1) (g99 cs hgs2.out) Fence.wide (6 - 1) trivial rfl (by omega) w4.heap.size W0.heap.size c4 A4 cs hcl1 W0 (by omega) hA4.out (g99_is hgs2.out) (Nat.le_refl _) hbs.out hcells.out) belowK_t (belowK_b (Nat.le_refl _)) (Below.refl _ _) (fun _ => rfl)
        (fun pre W => (∀ z, z ∈ pre → whI d.l z.1.2 = false) ∧ Below W0.heap.size W0 W)
        (fun cd pre W => cd = .ret ∧ Stop d.l w pre W)
        (OwnFrom.and (ownFrom_pure _ _) (ownFrom_below (Nat.le_refl _) (Nat.le_refl _)))
        (fun cd => OwnFrom.and (ownFrom_pure _ _) (stop_own d.l w _ (by omega)))
        ⟨(fun z hz => by cases hz), Below.refl _ _⟩
        (fun x => { tmps := #[.pointer (some ⟨p, 0, none⟩), .slice A ns.length c, .pointer (some ⟨w.heap.size, 0, none⟩), undef, .pointer (some ⟨w.heap.size + 1, 0, none⟩), u5, undef, u7, undef, .int .i64 x.1.2, undef, undef, .slice A ns.length c, .int .i64 ns.length, .int .i64 ns.length, .bool false, u16, u17, u18, u19, u20, u21, u22, u23, u5, .tuple #[], u5, .slice A4 cs.length c4, .func (.func 104) #[] #[.pointer (some ⟨w4.heap.size, 0, none⟩)], .int .i64 x.1.1, .int .i64 x.1.2, undef, undef, undef, undef, undef, undef, undef, undef, undef], defers := [] }) ?assign ?body ?done ?stop
      case assign =>
        intro l x W K hK
        gi_wp2
        exact hK
      case body =>
        rintro l pre ⟨⟨i, x⟩, hx1, hx2⟩ W ⟨hpre, hB⟩ hlt
        dsimp only at hx1 hx2
        obtain ⟨g, rfl⟩ : ∃ g : Nat, x = g := Int.eq_ofNat_of_zero_le (by omega)
        have hBw : Below w.heap.size w W := hlow.out.trans (hB.mono (by omega))
        have hrd := read_gen g ⟨by omega, by omega⟩ (h.below hBw) (by omega)
        have cb0 : W.cell? ⟨w.heap.size, 0, none⟩ = some (.pointer (some ⟨p, 0, none⟩)) := (hbox.out.below hB hbox.out.lt).cell 0
        have hresW := hide (hres.out.below hB hres.out.lt)
        have hB := hide hB
        have hBw := hide hBw
        by_cases hL : (gen d.l g).L = []
        · have hc := hide (hrd.mono (R' := fun e w' => e = .returned (.tuple #[.agg #[.slice none 0 0, .int .i64 0, .int .i64 0, .int .i64 0, .int .i64 0], .bool false]) ∧ Below W.heap.size W w') fun e w' ⟨b, z⟩ => by
            rcases z with ⟨_, z⟩ | ⟨z, _⟩
            · exact ⟨z, b⟩
            · exact absurd hL z)
          have hwh := hide (show whI d.l (g : Int) = false by unfold whI whole wholeG; rw [Int.toNat_natCast, hL])
          clear hrd hL
          gi_wp2_with (refine ⟨trivial, ?_⟩; gi_at_call 77; refine (CallsIn.inRound l (callsIn_wide.2 hc.out)).mono ?_; rintro e w6 ⟨rfl, b6⟩; have b6 := hide b6)
          have b7 := kept_alloc b6.out (.cells #[.slice none 0 0, .int .i64 0, .int .i64 0, .int .i64 0, .int .i64 0] 82)
          exact ⟨keeps_below b7, b7.mono hB.out.size, snoc_all hpre hwh.out, hB.out.trans (b7.mono hB.out.size)⟩
        · have hc := hrd.mono (R' := fun e w' => ∃ A9 c9, e = .returned (.tuple #[.agg #[.slice A9 (gen d.l g).L.tail.length c9, .int .i64 g, .int .i64 (gen d.l g).k, .int .i64 (gen d.l g).u, .int .i64 (gen d.l g).n], .bool (wholeG (gen d.l g))]) ∧ (gen d.l g).L.tail.length ≤ c9 ∧ PartsN W.heap.size w' A9 (gen d.l g).L.tail ∧ Below W.heap.size W w') fun e w' ⟨b, z⟩ => by
            rcases z with ⟨z, _⟩ | ⟨_, A9, c9, z1, z2, z3⟩
            · exact absurd z hL
            · exact ⟨A9, c9, z1, z2, z3, b⟩
          have hws : whI d.l (g : Int) = wholeG (gen d.l g) := by unfold whI whole; rw [Int.toNat_natCast]
          clear hrd hL
          cases hw : wholeG (gen d.l g) with
          | false =>
            rw [hw] at hc hws
            have hc := hide hc
            have hws := hide hws
            generalize (gen d.l g).L.tail.length = N9 at *
            clear hw
            gi_wp2_with (refine ⟨trivial, ?_⟩; gi_at_call 77; refine (CallsIn.inRound l (callsIn_wide.2 hc.out)).mono ?_; rintro e w6 ⟨A9, c9, rfl, hle, hpn, b6⟩; have b6 := hide b6)
            have b7 := kept_alloc b6.out (.cells #[.slice A9 N9 c9, .int .i64 g, .int .i64 (gen d.l g).k, .int .i64 (gen d.l g).u, .int .i64 (gen d.l g).n] 82)
            exact ⟨keeps_below b7, b7.mono hB.out.size, snoc_all hpre hws.out, hB.out.trans (b7.mono hB.out.size)⟩
          | true =>
            rw [hw] at hc hws
            have hc := hide hc
            have hws := hide hws
            clear hw
            have hmk := hide (fun (W' : World) (A9 : Option Addr) (c9 : Nat) (r1 : Row W' (w.heap.size + 1) 82 #[.slice A9 (gen d.l g).L.tail.length c9, .int .i64 g, .int .i64 (gen d.l g).k, .int .i64 (gen d.l g).u, .int .i64 (gen d.l g).n]) (r2 : (gen d.l g).L.tail.length ≤ c9) (r3 : PartsN w.heap.size W' A9 (gen d.l g).L.tail) (r4 : Below w.heap.size w W') => show Stop d.l w (pre ++ [⟨(i, (g : Int)), ⟨hx1, hx2⟩⟩]) W' from ⟨_, pre, rfl, hpre, hws.out, by show ResIs d.l w W' (Int.toNat (g : Int)); rw [Int.toNat_natCast]; exact ⟨A9, c9, r1, r2, r3, r4⟩⟩)
            clear hws
            generalize (gen d.l g).L.tail = LT at *
            generalize (gen d.l g).k = gk at *
            generalize (gen d.l g).u = gu at *
            generalize (gen d.l g).n = gn at *
            obtain ⟨N9, HN9⟩ : ∃ N9, LT.length = N9 := ⟨_, rfl⟩
            rw [HN9] at hc hmk
            clear HN9
            gi_wp2_with (refine ⟨trivial, ?_⟩; gi_at_call 77; refine (CallsIn.inRound l (callsIn_wide.2 hc.out)).mono ?_; rintro e w6 ⟨A9, c9, rfl, hle, hpn, b6⟩; have hr6 := hide ((hresW.out.below b6 hresW.out.lt).alloc (.cells #[.slice A9 N9 c9, .int .i64 g, .int .i64 gk, .int .i64 gu, .int .i64 gn] 82)); obtain ⟨z0, z1, z2, z3, z4, y0, y1, y2, y3, y4⟩ := Row.all5 hr6.out; have b6 := hide b6; have hpn := hide hpn)
            have hsW := hBw.out.size
            have hszW2 := hB.out.size
            have b7 := kept_alloc b6.out (.cells #[.slice A9 N9 c9, .int .i64 g, .int .i64 gk, .int .i64 gu, .int .i64 gn] 82)
            have hk7 := keeps_below b7
            have hpn7 := hpn.out.below ((Below.refl w6.heap.size w6).alloc (Nat.le_refl _) (.cells #[.slice A9 N9 c9, .int .i64 g, .int .i64 gk, .int .i64 gu, .int .i64 gn] 82))
            exact ⟨((((hk7.trans (KeepsOthers.setCell _ _ _)).trans (KeepsOthers.setCell _ _ _)).trans (KeepsOthers.setCell _ _ _)).trans (KeepsOthers.setCell _ _ _)).trans (KeepsOthers.setCell _ _ _), rfl,
              hmk.out _ A9 c9 (hr6.out.five _ _ _ _ _) hle ((((((hpn7.store (by omega)).store (by omega)).store (by omega)).store (by omega)).store (by omega)).mono (by omega)) (below_five (hBw.out.trans (b7.mono hsW)) (by omega) _ _ _ _ _)⟩
      case done =>
        rintro D ys W hD rfl ⟨hpre, hB⟩ hK
        have hbest := hide (show opG d = 0 from pick_none hwm2.out fun y hy => by
          obtain ⟨z, hz, e⟩ := mem_g99 hgs2.out (Nat.le_refl _) hy
          rw [← e]; exact hpre z hz)
        have hlW := hide (hlow.out.trans (hB.mono (by omega)))
        obtain ⟨z0, z1, z2, z3, z4, y0, y1, y2, y3, y4⟩ := Row.all5 (hres.out.below hB hres.out.lt)
        have hR5 := hide ((show Row W (w.heap.size + 1) 82 #[_, _, _, _, _] from hres.out.below hB hres.out.lt).five (.slice none 0 0) (.int .i64 0) (.int .i64 0) (.int .i64 0) (.int .i64 0))
        have hDw : w.heap.size ≤ D := by omega
        have hK5 : (((((W.setCell ⟨w.heap.size + 1, 0, none⟩ (.slice none 0 0)).setCell ⟨w.heap.size + 1, 1, none⟩ (.int .i64 0)).setCell ⟨w.heap.size + 1, 2, none⟩ (.int .i64 0)).setCell ⟨w.heap.size + 1, 3, none⟩ (.int .i64 0)).setCell ⟨w.heap.size + 1, 4, none⟩ (.int .i64 0)).heap[D]? = some (.deferred (some [])) :=
          (((((KeepsOthers.setCell W _ _).trans (KeepsOthers.setCell _ _ _)).trans (KeepsOthers.setCell _ _ _)).trans (KeepsOthers.setCell _ _ _)).trans (KeepsOthers.setCell _ _ _)).same D _ hK rfl
        have hl5 := below_five (b := w.heap.size + 1) hlW.out (by omega) (.slice none 0 0) (.int .i64 0) (.int .i64 0) (.int .i64 0) (.int .i64 0)
        have hfin := hide (rows_own _ _ _ hR5.out (grownBy_putObj' _ D (.deferred none)) (fun r e => by cases e; exact ⟨_, hK5, rfl⟩))
        have hlf := hide (hl5.grown (grownBy_putObj' _ D (.deferred none)) hl5.size (fun k e => by cases e; exact hDw))
        clear hl5
        gi_wp2
        refine ⟨by simp, .inl ⟨_, _, rfl, run_takeDeferred hK5, ?_⟩⟩
        exact ⟨_, res_gen1 rfl rfl hfin.out, hlf.out, .inl ⟨hbest.out, rfl⟩⟩
      case stop =>
        rintro D cd pre W hD ⟨k, hk, rfl⟩ ⟨rfl, z, pre', e, h1, h2, A9, c9, R⟩ hK
        rw [upto_succ] at e
        obtain ⟨e1, e2⟩ := List.append_inj' e rfl
        have e2 : g99 cs hgs2.out k = z := by simpa using e2
        subst e1 e2
        obtain ⟨g, hg, _, _⟩ := hgs2.out _ (by have := bkw_mem hk; rw [← g99_is hgs2.out k hk] at this; exact this)
        have hzk := g99_is hgs2.out k hk
        have hbest := hide (show opG d = g from pick_found hrise.out hgs2.out hwm2.out hk (i := (bkw cs k).1) (by rw [← hzk, ← hg]) (by rw [hg] at h2; unfold whI at h2; rwa [Int.toNat_natCast] at h2) fun y hy => by
          obtain ⟨z, hz, e⟩ := mem_g99 hgs2.out (by omega) hy
          rw [← e]; exact h1 z hz)
        rw [hg, Int.toNat_natCast] at R
        have hDw : w.heap.size ≤ D := by omega
        have hr' : ∀ r, some D = some r → ∃ o : Obj, W.heap[r]? = some o ∧ o.isCells = false := fun r e => by cases e; exact ⟨_, hK, rfl⟩
        have hfin := hide (rows_own _ _ _ R.row (grownBy_putObj' W D (.deferred none)) hr')
        have hpf := hide (R.parts.own (grownBy_putObj' W D (.deferred none)) hr')
        have hlf := hide (R.low.grown (grownBy_putObj' W D (.deferred none)) R.low.size (fun k e => by cases e; exact hDw))
        have hle := R.le
        clear R e
        gi_wp2
        refine ⟨by simp, .inl ⟨_, _, rfl, run_takeDeferred hK, ?_⟩⟩
        refine ⟨_, res_gen1 rfl rfl hfin.out, hlf.out, .inr ?_⟩
        have hg0 : opG d ≠ 0 := by rw [hbest.out]; omega
        have hz : opZ d = gen d.l g := by unfold opZ; rw [if_neg hg0, hbest.out]
        refine ⟨hg0, A9, c9, ?_, ?_, ?_⟩
        · unfold opL; rw [hz, hbest.out]
        · unfold opL; rw [hz]; exact hle
        · unfold opL; rw [hz]; exact hpf.out
end Go.Proofs.YtkmcnhjfnjikaaaGreatDoor
