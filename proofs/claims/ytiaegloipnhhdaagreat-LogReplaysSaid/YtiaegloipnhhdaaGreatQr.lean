/- The iterator over the keys of a map of cells; what it gives, collected in a slice. Conditions: what a loop over an iterator promises; its length has room. -/
import Derived.Test.YtiaegloipnhhdaaGreatQp
import Derived.RangeFuncNested
import Derived.RangeFuncCalls
import Derived.RangeFuncLeaves
import Derived.Sort.MapsRangeIn
import Derived.OwnWalkIn
import Derived.TacticsInMore
import Derived.RegionIn
import Derived.LoopNIn
import Derived.LoopIn
import Derived.Maps.AppendAt
import Derived.Shelf.Abstract
import Derived.Test.YtiaegloipnhhdaaGreatSlay
import Derived.Shelf.GgSortFunc.Tiny
namespace Go.Proofs.YtiaegloipnhhdaaGreat
set_option maxRecDepth 100000
open Go.RowKit Go.Maps Go.Shelf
attribute [local go_sem] Oper.semAt_some
/-- What has come so far: no instance twice, those of the map that are no longer to come. -/
def Coll (D : DataW Value) (left : Lit → Bool) (ss : List (Int × Int)) : Prop := ss.Nodup ∧ (∀ x, x ∈ ss → Ok x) ∧ ∀ x, Ok x → (x ∈ ss ↔ (has D (kl x) = true ∧ left (kl x) = false))
theorem coll_start (D : DataW Value) : Coll D (has D) [] := ⟨List.nodup_nil, fun x hx => (by cases hx), fun x _ => (by cases has D (kl x) <;> simp)⟩
theorem coll_step {D : DataW Value} {left : Lit → Bool} {ss : List (Int × Int)} (h : Coll D left ss) {x : Int × Int} (hx : Ok x) (hl : left (kl x) = true) (hh : has D (kl x) = true) : Coll D (fun z => left z && !z.sameKey (kl x)) (ss ++ [x]) := by
  have hnew : x ∉ ss := fun k => by have := ((h.2.2 x hx).1 k).2; rw [hl] at this; cases this
  refine ⟨List.nodup_append.2 ⟨h.1, by simp, fun a ha b hb => by simp at hb; subst hb; exact fun e => hnew (e ▸ ha)⟩, fun y hy => ?_, fun y hy => ?_⟩
  · rcases List.mem_append.1 hy with h1 | h1
    · exact h.2.1 y h1
    · simp at h1; subst h1; exact hx
  · by_cases e : y = x
    · subst e; simp [hh, WideAt.sameKey_self (kl_key y)]
    · have hs : (kl y).sameKey (kl x) = false := by rw [kl_same hy hx]; exact decide_eq_false e
      simp [h.2.2 y hy, e, hs]
/-- All has come. -/
theorem coll_end {D : DataW Value} {left : Lit → Bool} {ss l : List (Int × Int)} (h : Coll D left ss) (hl : ∀ k, left k = false) (hr : l.Nodup) (hok : ∀ x, x ∈ l → Ok x) (hm : ∀ x, Ok x → (has D (kl x) = true ↔ x ∈ l)) : ss.Perm l := by
  refine (List.perm_ext_iff_of_nodup h.1 hr).2 fun x => ?_
  constructor
  · intro hx
    have ho := h.2.1 x hx
    exact (hm x ho).1 ((h.2.2 x ho).1 hx).1
  · intro hx
    have ho := hok x hx
    exact (h.2.2 x ho).2 ⟨(hm x ho).2 hx, hl _⟩
set_option maxHeartbeats 1000000 in
theorem iter_in (F : Fence) (n : Nat) (h10 : F.fn 68) (hro : F.round = none) (hn : 1 ≤ n) (l Bm b : Nat) (xs : List (Int × Int)) (D0 : DataW Value) (J Jx : List (Int × Int) → World → Prop)
    (hY : ∀ pre x W, J pre W → pre.length < xs.length → YieldAt F (n - 1) Tryz.prog l #[iv x] W fun e W' =>
      (e = .returned (.bool true) ∧ J (pre ++ [x]) W' ∧ KeepsWalks W W') ∨ (e = .returned (.bool false) ∧ Jx (pre ++ [x]) W'))
    (W : World) (hJ : AbidesFrom W.heap.size J) (hm : W.cell? ⟨Bm, 0, none⟩ = some (.map (some b))) (hown : W.ownsMap Tryz.prog 30 asIs b xs.length D0) (hz : size D0 = xs.length) (hr : xs.Nodup) (hok : ∀ x, x ∈ xs → Ok x) (hh : ∀ x, Ok x → (has D0 (kl x) = true ↔ x ∈ xs)) (h0 : J [] W) :
    CallsIn F n Tryz.prog 68 #[.func (.yield l) #[] #[], .pointer (some ⟨Bm, 0, none⟩)] W fun e W' => (∃ v, e = .returned v) ∧
      ((∃ ss : List (Int × Int), ss.Perm xs ∧ J ss W') ∨ (∃ pre : List (Int × Int), True ∧ Jx pre W')) := by
  have HH := hide (And.intro hr (And.intro hok hh))
  have HZ := hide hz
  have HO := hide hown
  clear hr hok hh hz hown
  refine callsIn_of_wp Tryz.func68 rfl h10 ?_ hro
  simp only [Tryz.ntmps68, List.size_toArray, List.length_cons, List.length_nil, Nat.reduceAdd, Nat.reduceSub, Array.replicate_succ, Array.replicate_zero, List.push_toArray, List.append_toArray, List.nil_append, List.cons_append]
  gi_wp2_with (first
    | (gi_at_range; refine wpListIn_range_own _ rfl _ 60 rfl 30 38 law Tryz.underlying60 _ b xs.length _ rfl HO.out ?_; intro w0 hrg0 hg0 hs0)
    | gi_in)
  go_frame
  gi_loopw [3] (fun _ wr => ∃ (left : Lit → Bool) (cnt : Nat) (ss : List (Int × Int)), wr.ranges Tryz.prog 30 asIs b W.heap.size xs.length D0 left cnt ∧ ss.length + cnt ≤ xs.length ∧ Hid (Coll D0 left ss) ∧ J ss wr)
    (fun _ wr => wr.rangeLeft b W.heap.size)
  case atStart =>
    exact ⟨_, _, [], hrg0, by simp [HZ.out], hide (coll_start D0), hJ [] W w0 none h0 hg0 (fun r e => by cases e)⟩
  case round =>
    obtain ⟨left, cnt, ss, hrg, hcs, hC, hJs⟩ := hrel
    gi_wp2_with (first
      | (gi_at_next; refine wpListIn_next_ranges _ rfl _ rfl 30 law asIs (fun x : Int × Int => iv x) (fun v : Value => v) (fun key k hk => by obtain ⟨x, _, hx, _⟩ := key_inv hk; exact ⟨x, hx⟩) (fun v y _ => ⟨v, rfl⟩) b W.heap.size xs.length _ _ _ rfl hrg ?_ ?_)
      | gi_in)
    · intro hc0 hl0
      gi_wp2
      go_end0
      exact ⟨⟨_, rfl⟩, .inl ⟨ss, coll_end hC.out hl0 HH.out.1 HH.out.2.1 HH.out.2.2, hJs⟩⟩
    · intro x s c k yd yp w2 cnt2 hkey hlk hv hat hrg2 hlt hg2 hs2 hen
      obtain ⟨x', ho, ex, rfl⟩ := key_inv hkey
      obtain rfl : (x, s) = x' := by
        unfold iv at ex
        obtain ⟨p, q⟩ := x'
        simp at ex
        simp [ex]
      have hC2 := hide (coll_step hC.out ho hlk (has_true_of_atKey hat))
      have hJ2 : J ss w2 := hJ ss wr w2 (some W.heap.size) hJs hg2 (fun r e => by cases e; exact ⟨Nat.le_refl _, hrg.iter_walk⟩)
      have hJ3 : J ss (w2.alloc (.cells #[.int .i64 x, .int .i64 s] 30)) := hJ ss w2 _ none hJ2 (World.grownBy_alloc _ _ _) (fun r e => by cases e)
      obtain ⟨fn, tmps, assign, body, hy, hR⟩ := hY ss (x, s) _ hJ3 (by omega)
      have hrg3 := hrg2.alloc (.cells #[.int .i64 x, .int .i64 s] 30)
      have HL := hide hlt
      have hlc : ss.length + 1 + cnt2 ≤ xs.length := by omega
      clear hs2 hkey hlk hv hat hg2 hJ2 hlt hJ3 ex
      unfold iv at hen hy
      gi_wp2
      refine hR.mono ?_
      rintro e W3 (⟨rfl, hJ4, hk3⟩ | ⟨rfl, hJx3⟩)
      · gi_wp2
        have hrg4 := hrg3.of_walks hk3
        go_roundw
        case rel => exact ⟨_, cnt2, ss ++ [(x, s)], hrg4, by simp; omega, hC2, hJ4⟩
        case measure => rw [hrg4.left_eq, hrg.left_eq]; exact HL.out
      · gi_wp2
        refine bodyPost_ret (results_none rfl _ _ _) rfl ?_
        exact ⟨⟨_, rfl⟩, .inr ⟨ss ++ [(x, s)], trivial, hJx3⟩⟩
/-- The instances as cells. -/
def cellsP (l : List (Int × Int)) : List Value := l.flatMap ic
theorem cellsP_snoc (l : List (Int × Int)) (x : Int × Int) : cellsP (l ++ [x]) = cellsP l ++ [.int .i64 x.1, .int .i64 x.2] := by
  unfold cellsP; rw [List.flatMap_append]; rfl
theorem info_inst : (Tryz.prog.info? 30).map (fun i => (i.zero, i.size, i.bytes)) = some (some (.agg #[.int .i64 0, .int .i64 0]), 2, 16) := by kernel_rfl
theorem row_own (g : Nat) (t : TypeId) (cs : Array Value) : Own (fun (_ : Unit) W => Row W g t cs) := fun s X Y row hs hg hrow =>
  hs.grown hg (fun e' => by obtain ⟨o, ho, hc⟩ := hrow g e'.symm; rw [show X.heap[g]? = _ from hs] at ho; cases ho; cases hc)
theorem iter_stops (F : Fence) (n : Nat) (h10 : F.fn 68) (hro : F.round = none) (hn : 1 ≤ n) (Bm b : Nat) (k : Ents) (w : World) (hBm : Bm < w.heap.size)
    (hm : w.cell? ⟨Bm, 0, none⟩ = some (.map (some b))) (h : Mp w b k) :
    SeqStopsK F n Tryz.prog 68 #[.pointer (some ⟨Bm, 0, none⟩)] (fun x => #[iv x]) KeepsWalks (fun ss => ss.Perm (k.map Prod.fst)) (fun _ => True) (k.map Prod.fst).length w := fun l J Jx W hW hJ _ hY h0 => by
  obtain ⟨D, hD, hT⟩ := h.map
  have hs : size D = (k.map Prod.fst).length := by rw [List.length_map]; exact hT.size
  rw [hs] at hD
  exact iter_in F n h10 hro hn l Bm b _ D J Jx hY W hJ ((hW.cell (p := ⟨Bm, 0, none⟩) hBm).trans hm) (hD.kept (grown_below hW) (by simp)) hs h.nd (fun x hx => by obtain ⟨e, he, rfl⟩ := List.mem_map.1 hx; exact h.ok e he) (fun x hx => hT.keys hx) h0
set_option maxHeartbeats 2000000 in
theorem appendseq_in (F : Fence) (n : Nat) (h11 : F.fn 67) (hro : F.round = none) (hn : 3 ≤ n) (gf : Nat) (lb : Array Value) (hFg : F.fn gf) (eg : ∀ args w, (callFunc gf args).run Tryz.prog w = .ok (.enter gf args) w)
    (S : List (Int × Int) → Prop) (N : Nat) (hN : N ≤ 4611686018427) (w : World) (hseq : SeqStopsK F (n - 1) Tryz.prog gf lb (fun x => #[iv x]) KeepsWalks S (fun _ => True) N w) :
    CallsIn F n Tryz.prog 67 #[.slice none 0 0, .func (.func gf) #[] lb] w fun e W' => ∃ v ss, e = .returned v ∧ S ss ∧ W'.ownsRow w.heap.size 30 2 v ss.length (cellsP ss) ∧ (v = .slice none 0 0 ↔ ss = []) ∧ Below w.heap.size w W' := by
  have h1 : 1 ≤ n := by omega
  obtain ⟨i0, hi, hz0, hz1, hz2⟩ := info_parts info_inst
  refine callsIn_of_wp_marks Tryz.func67 rfl h11 ?_ hro
  simp only [Tryz.ntmps67, List.size_toArray, List.length_cons, List.length_nil, Nat.reduceAdd, Nat.reduceSub, Array.replicate_succ, Array.replicate_zero, List.push_toArray, List.append_toArray, List.nil_append, List.cons_append]
  gi_wp2
  have bO := Go.Boxed.new w 48 (.slice none 0 0)
  have hB0 : Below w.heap.size w (w.alloc (.cells #[.slice none 0 0] 48)) := (Below.refl _ w).alloc (Nat.le_refl _) _
  have hsz : (w.alloc (.cells #[.slice none 0 0] 48)).heap.size = w.heap.size + 1 := by simp
  obtain ⟨W0, hW0⟩ : ∃ W0, w.alloc (.cells #[.slice none 0 0] 48) = W0 := ⟨_, rfl⟩
  rw [hW0] at bO hB0 hsz ⊢
  clear hW0
  refine wpIn_rangeFunc_ownH hro h1 (gf := gf) (lb := lb) rfl hFg eg hseq walksK_t walksK_b hB0 (fun _ => rfl)
    (fun pre W => (∃ v, Go.Boxed W w.heap.size 48 v ∧ W.ownsRow w.heap.size 30 2 v pre.length (cellsP pre) ∧ (v = .slice none 0 0 ↔ pre = [])) ∧ Below w.heap.size w W)
    (fun _ _ _ => False)
    (OwnFrom.and (Own.from (holdsRow_own w.heap.size w.heap.size 48 30 2 (fun pre => pre.length) (fun pre => cellsP pre) (fun pre v => v = .slice none 0 0 ↔ pre = [])) _) (ownFrom_below (Nat.le_refl _) (by omega)))
    (fun _ _ _ _ _ hs _ _ => hs)
    ⟨⟨_, bO, World.ownsRow_nil _ _ _ _, by simp⟩, hB0⟩
    (fun x a' W => ∃ Bx, w.heap.size < Bx ∧ Row W Bx 30 #[.int .i64 x.1, .int .i64 x.2] ∧ a' = { tmps := #[.slice none 0 0, .func (.func gf) #[] lb, .pointer (some ⟨w.heap.size, 0, none⟩), undef, .slice none 0 0, .pointer (some ⟨Bx, 0, none⟩), .func (.func gf) #[] lb, iv x, undef, undef, undef, undef, undef], defers := [] })
    (fun x a' _ X Y row hs hg hr => by obtain ⟨Bx, h1, h2, h3⟩ := hs; exact ⟨Bx, h1, row_own Bx _ _ () X Y row h2 hg (fun r e => (hr r e).2), h3⟩)
    ?assign ?body ?done ?stop
  case assign =>
    rintro l pre ⟨r, s⟩ W K ⟨⟨v, hv, hrow, hnil⟩, hB⟩ hK
    unfold iv
    gi_wp2
    exact hK _ _ ((KeepsOthers.alloc _ _).from _) (KeepsWalks.alloc _ _) ⟨⟨v, hv.alloc _, hrow.alloc _, hnil⟩, hB.alloc hB.size _⟩ ⟨W.heap.size, hv.lt, Row.new W _ _, rfl⟩
  case body =>
    rintro l pre ⟨r, s⟩ a' W hl _ ⟨⟨v, hv, hrow, hnil⟩, hB⟩ ⟨Bx, hBx, hR, rfl⟩ hlt
    have hc := hv.cell
    have c0 : W.cell? ⟨Bx, 0, none⟩ = some (.int .i64 r) := hR.cell 0
    have c1 : W.cell? ⟨Bx, 1, none⟩ = some (.int .i64 s) := hR.cell 1
    clear hR
    gi_wp2_with (gi_at_builtin; refine wpListIn_append_own _ rfl _ _ 48 rfl w.heap.size 30 i0 (.agg #[.int .i64 0, .int .i64 0]) 2 16 Tryz.underlying48 hi hz0 hz1 hz2 rfl (by decide) _ _ _ rfl (hrow.alloc _) ⟨W.heap.size, 0, none⟩ 1 1 [.int .i64 r, .int .i64 s] rfl rfl (cell_two_new _ _ _ _) (by simp [Value.oneCell']) (by unfold maxLen; omega) (by omega) (by have := hB.size; simp; omega) ?_; intro v' w1 hown' hgrow _; obtain ⟨g', cap', rfl⟩ := ownsRow_succ hown'; obtain ⟨hv1, hv2, hr2, hk2, hb2⟩ := hv.appended (by decide) hrow hB.size (Nat.le_refl _) hown' hgrow; have hc1 := hv1.cell; have hf1 := hv1.frozen)
    exact ⟨hk2.from _, hk2.walks, ⟨_, hv2, by rw [cellsP_snoc]; simpa using hr2, by simp⟩, hB.trans hb2⟩
  case done =>
    rintro D ys W hD hS ⟨⟨v, hv, hrow, hnil⟩, hB⟩ hK
    have hc := hv.cell
    gi_wp2
    refine ⟨by simp, .inl ⟨_, _, rfl, run_takeDeferred hK, ?_⟩⟩
    exact ⟨_, results_tmp rfl _ _ _, v, ys, rfl, hS, ownsRow_putObj hrow _ hK rfl, hnil, hB.trans (belowK_b (w := w) (Nat.le_refl _) W D _ _ (by omega) hK rfl rfl)⟩
  case stop =>
    rintro D c pre W _ _ h _
    exact h.elim
theorem own_lowerg {w : World} {base base' : Nat} {e : TypeId} {size : Nat} {v : Value} {n : Nat} {xs : List Value} (h : w.ownsRow base e size v n xs) (hb : base' ≤ base) : w.ownsRow base' e size v n xs :=
  ⟨h.1, h.2.imp id fun ⟨g, cap, cur, e1, hg, r⟩ => ⟨g, cap, cur, e1, Nat.le_trans hb hg, r⟩⟩
theorem pkeys_any (mb : Option Nat) (w : World) : Calls Tryz.prog 32 #[.map mb] w fun e w' =>
    e = .returned (.func (.func 68) #[] #[.pointer (some ⟨w.heap.size, 0, none⟩)]) ∧ w' = w.alloc (.cells #[.map mb] 60) := by
  go_enter Tryz.func32, Tryz.ntmps32
  go_wp2
  go_ret
  exact ⟨rfl, rfl⟩
/-- The slice that the call has made: it holds ss. -/
def MadeI (w w' : World) (v : Value) (ss : List (Int × Int)) : Prop := w'.ownsRow w.heap.size 30 2 v ss.length (cellsP ss) ∧ (v = .slice none 0 0 ↔ ss = []) ∧ Below w.heap.size w w'
theorem pappend_any (b Bm : Nat) (k : Ents) (w : World) (h : Mp w b k) (hBm : Bm < w.heap.size) (hm : w.cell? ⟨Bm, 0, none⟩ = some (.map (some b))) (hl : k.length ≤ 4611686018427) :
    Calls Tryz.prog 67 #[.slice none 0 0, .func (.func 68) #[] #[.pointer (some ⟨Bm, 0, none⟩)]] w fun e w' => ∃ v ss, e = .returned v ∧ ss.Perm (k.map Prod.fst) ∧ MadeI w w' v ss := by
  have eg : ∀ args w, (callFunc 68 args).run Tryz.prog w = .ok (.enter 68 args) w := enters_of Tryz.func68 (by kernel_rfl) rfl
  refine (callsIn_wide (n := 5)).1 ?_
  refine (appendseq_in Fence.wide 5 trivial rfl (by omega) _ _ trivial eg (fun ss => ss.Perm (k.map Prod.fst)) (k.map Prod.fst).length (by rw [List.length_map]; omega) w (iter_stops Fence.wide (5 - 1) trivial rfl (by omega) Bm b k w hBm hm h)).mono ?_
  rintro e w' ⟨v, ss, rfl, hp, h1, h2, h3⟩
  exact ⟨v, ss, rfl, hp, h1, h2, h3⟩
theorem pcollect_any (b Bm : Nat) (k : Ents) (w : World) (h : Mp w b k) (hBm : Bm < w.heap.size) (hm : w.cell? ⟨Bm, 0, none⟩ = some (.map (some b))) (hl : k.length ≤ 4611686018427) :
    Calls Tryz.prog 31 #[.func (.func 68) #[] #[.pointer (some ⟨Bm, 0, none⟩)]] w fun e w' => ∃ v ss, e = .returned v ∧ ss.Perm (k.map Prod.fst) ∧ MadeI w w' v ss := by
  have hc := pappend_any b Bm k w h hBm hm hl
  go_enter Tryz.func31, Tryz.ntmps31
  go_wp2_with (go_at_call 67; refine hc.mono ?_; rintro e w' ⟨v, ss, rfl, hp, hM⟩)
  go_ret
  exact ⟨v, ss, rfl, hp, hM⟩
end Go.Proofs.YtiaegloipnhhdaaGreat
/- The program's List, by what sort.Slice is known to do at that length. Conditions: the Log lies in memory, it holds few. -/
namespace Go.Proofs.YtiaegloipnhhdaaGreat
set_option maxRecDepth 100000
open Go.RowKit Go.Maps Go.Shelf Go.Sort Go.Lib
noncomputable def svT : TypeInfo := (Tryz.prog.info? 48).get (by kernel_rfl)
noncomputable def svE : TypeInfo := (Tryz.prog.info? 30).get (by kernel_rfl)
theorem svK (n : Nat) (h2 : 2 ≤ n) : Lib.swapperK n svE 25 = 9 := by
  have a : svE.hasPointers = false := by kernel_rfl
  have b : svE.bytes = 16 := by kernel_rfl
  have c : (n == 0) = false := by simp; omega
  have d : (n == 1) = false := by simp; omega
  simp [Lib.swapperK, a, b, c, d]
theorem slice_nil (c : Nat) (lf : Fn) (la lb : Array Value) (w : World) :
    Calls Tryz.prog 33 #[.iface 48 (.slice none 0 c), .func lf la lb] w fun e w' => e = .returned (.tuple #[]) ∧ ∃ os, w' = grow w os :=
  Any.sort_Slice_tiny Tryz.laySlice 48 30 svT svE (by kernel_rfl) (by kernel_rfl) (by kernel_rfl) (by kernel_rfl) 25 (fun _ => by kernel_rfl) none 0 c (by omega) 99 (by kernel_rfl) lf la lb w
theorem slice_one (p : Option Addr) (c : Nat) (lf : Fn) (la lb : Array Value) (w : World) :
    Calls Tryz.prog 33 #[.iface 48 (.slice p 1 c), .func lf la lb] w fun e w' => e = .returned (.tuple #[]) ∧ ∃ os, w' = grow w os :=
  Any.sort_Slice_tiny Tryz.laySlice 48 30 svT svE (by kernel_rfl) (by kernel_rfl) (by kernel_rfl) (by kernel_rfl) 25 (fun _ => by kernel_rfl) p 1 c (by omega) 100 (by kernel_rfl) lf la lb w
theorem grown_grow (w : World) (os : Array Obj) : Below w.heap.size w (Sort.grow w os) := by
  refine ⟨rfl, rfl, rfl, by rw [size_grow]; omega, fun k hk => heap_grow_old _ _ hk⟩
/-- What is asked of sort.Slice at lists of n instances. -/
def SortOk (n : Nat) : Prop := ∀ (gg cap Bs : Nat) (ss : List (Int × Int)) (w : World) (cur : Array Value), ss.length = n → w.heap[gg]? = some (.cells cur 30 (0, 0)) → n ≤ cap → cap ≤ maxLen → cur.size = cap * 2 → cur.toList.take (n * 2) = cellsP ss →
  Row w Bs 48 #[.slice (some ⟨gg, 0, none⟩) n cap] →
  Calls Tryz.prog 33 #[.iface 48 (.slice (some ⟨gg, 0, none⟩) n cap), .func (.func 34) #[] #[.pointer (some ⟨Bs, 0, none⟩)]] w fun e w' => e = .returned (.tuple #[]) ∧
    ∃ ts : List (Int × Int), ts.Perm ss ∧ ts.Pairwise (fun a b => ltP b a = false) ∧ w'.ownsRow gg 30 2 (.slice (some ⟨gg, 0, none⟩) n cap) n (cellsP ts) ∧ w.grownBy w' (some gg)
theorem perm_sorted {ts l : List (Int × Int)} (hp : ts.Perm l) (hs : ts.Pairwise fun a b => ltP b a = false) (hr : l.Pairwise fun a b => ltP a b = true) : ts = l := by
  have hn : l.Nodup := hr.imp fun h => ltP_ne h
  have hn' : ts.Nodup := hp.symm.nodup hn
  have hr' : ts.Pairwise fun a b => ltP a b = true := by
    refine (hs.and hn').imp ?_
    rintro a b ⟨h1, h2⟩
    rcases ltP_total a b with h | h | h
    · exact h
    · exact absurd h h2
    · rw [h] at h1; cases h1
  clear hs hn hn'
  induction ts generalizing l with
  | nil => exact (List.nil_perm.1 hp).symm
  | cons a ts ih =>
    cases l with
    | nil => exact absurd hp (by simp)
    | cons b l =>
      obtain ⟨ha, ht⟩ := List.pairwise_cons.1 hr'
      obtain ⟨hb, hl⟩ := List.pairwise_cons.1 hr
      have hab : a = b := by
        rcases List.mem_cons.1 (hp.mem_iff.1 (List.mem_cons_self ..)) with h1 | h1
        · exact h1
        · rcases List.mem_cons.1 (hp.mem_iff.2 (List.mem_cons_self ..)) with h2 | h2
          · exact h2.symm
          · have := ltP_trans (hb a h1) (ha b h2)
            rw [ltP_irrefl] at this
            cases this
      subst hab
      rw [ih (List.perm_cons a |>.1 hp) hl ht]
theorem made_form {w w' : World} {v : Value} {ss : List (Int × Int)} (h : MadeI w w' v ss) : ∃ A c, v = .slice A ss.length c ∧ (A = none ∧ ss = [] ∧ c = 0 ∨ ∃ gg cur, A = some ⟨gg, 0, none⟩ ∧ w.heap.size ≤ gg ∧ w'.heap[gg]? = some (.cells cur 30 (0, 0)) ∧ ss.length ≤ c ∧ c ≤ maxLen ∧ cur.size = c * 2 ∧ cur.toList.take (ss.length * 2) = cellsP ss) := by
  obtain ⟨h1, h2, _⟩ := h
  rcases h1.2 with ⟨e, h0⟩ | ⟨gg, cap, cur, e, q1, q2, q3, q4, q5, q6⟩
  · have hn := h2.1 e
    subst hn
    exact ⟨none, 0, e, .inl ⟨rfl, rfl, rfl⟩⟩
  · exact ⟨_, cap, e, .inr ⟨gg, cur, rfl, q1, q2, q3, q4, q5, q6⟩⟩
set_option maxHeartbeats 4000000 in
theorem plist_any {g b : Nat} {w : World} {x : Lw} (h : Pg w g b x) (hs : x.k = [] ∨ SortOk x.k.length) (hl : x.k.length ≤ 1000000000) :
    Calls Tryz.prog 11 #[.pointer (some ⟨g, 0, none⟩)] w fun e w' => ∃ v, e = .returned v ∧ MadeI w w' v (x.k.map Lc.i) := by
  obtain ⟨m, hp, hm⟩ := h.pm.mp
  have c0 : w.cell? ⟨g, 0, none⟩ = some (.map (some b)) := h.known
  have R := Row.new w 60 #[.map (some b)]
  have HC := hide (pcollect_any b w.heap.size (kL m) (w.alloc (.cells #[.map (some b)] 60)) (hm.alloc _) (by simp) (R.cell 0) (by rw [kL_len, hp.length_eq]; omega))
  rw [kL_keys] at HC
  have HPM := hide (hp.map Lc.i)
  have HUP := hide (show (x.k.map Lc.i).Pairwise fun a b => ltP a b = true from List.pairwise_map.2 h.kl.up)
  have HS := hide hs
  have hmf : ∀ (fn : Fn) (first cap : Array Value) (w : World), (Instr.makeFunc fn first cap).run Tryz.prog w = .ok (.func fn first cap) w := fun _ _ _ _ => rfl
  have HA := hide (kept_alloc (kept_refl w) (.cells #[.map (some b)] 60))
  have HSZ := hide (show (w.alloc (.cells #[.map (some b)] 60)).heap.size = w.heap.size + 1 by simp)
  have HLN := hide (show (x.k.map Lc.i).length = x.k.length from List.length_map _)
  clear h R hm hp hs hl
  go_enter Tryz.func11, Tryz.ntmps11
  go_upto_region 2 with (first
    | (go_at_call 32; (with_reducible refine (pkeys_any _ _).mono ?_); rintro e w1 ⟨rfl, rfl⟩)
    | (go_at_call 31; (with_reducible refine HC.out.mono ?_); rintro e w2 ⟨v, ss, rfl, hp, hM⟩; obtain ⟨A, c, rfl, hform⟩ := made_form hM))
  have HW := hide (show Below w.heap.size w w2 from kept_trans HA.out hM.2.2)
  have HPS := hide (hp.trans HPM.out)
  have HF := hide hform
  have HMD := hide hM
  clear hp hM hform HC HPM HA c0
  have R3 := hide (Row.new w2 48 #[.slice A ss.length c])
  have HW3 := hide (HW.out.alloc HW.out.size (.cells #[.slice A ss.length c] 48))
  have HL3 := hide (show ∀ (gg : Nat) (cur : Array Value), w2.heap[gg]? = some (Obj.cells cur 30 (0, 0)) → (w2.alloc (.cells #[.slice A ss.length c] 48)).heap[gg]? = some (Obj.cells cur 30 (0, 0)) from fun gg cur h => by
    have hlt : gg < w2.heap.size := (Array.getElem?_eq_some_iff.1 h).1
    rw [((Below.refl w2.heap.size w2).alloc (Nat.le_refl _) (.cells #[.slice A ss.length c] 48)).block gg hlt]
    exact h)
  generalize w2.alloc (.cells #[.slice A ss.length c] 48) = w3 at R3 HW3 HL3 ⊢
  have HN := hide HMD.out.2.1
  generalize w2.heap.size = Bs at R3 ⊢
  rcases HF.out with ⟨rfl, rfl, rfl⟩ | ⟨gg, cur, rfl, q1, q2, q3, q4, q5, q6⟩
  · have hnil : x.k.map Lc.i = [] := List.nil_perm.1 HPS.out
    have HNIL := hide hnil
    have hcell := R3.out.cell 0
    clear HF HMD HN hnil HL3 HS
    change w3.cell? ⟨Bs, 0, none⟩ = some (.slice none 0 0) at hcell
    go_wp2_with (go_at_call 33; (with_reducible refine (slice_nil _ _ _ _ _).mono ?_); rintro e w4 ⟨rfl, os, rfl⟩; replace R3 := hide (R3.out.below (grown_grow w3 os) R3.out.lt); replace HW3 := hide (kept_trans HW3.out (grown_grow w3 os)); clear hcell; have hcell : (Sort.grow w3 os).cell? ⟨Bs, 0, none⟩ = some (.slice none 0 0) := R3.out.cell 0)
    go_ret
    rw [HNIL.out]
    exact ⟨_, rfl, World.ownsRow_nil _ _ _ _, by simp, HW3.out⟩
  · have hlen : ss.length = x.k.length := by rw [HPS.out.length_eq, HLN.out]
    have hok : SortOk x.k.length := by
      rcases HS.out with h0 | h0
      · exfalso
        have hs : ss = [] := List.eq_nil_of_length_eq_zero (by rw [hlen, h0]; rfl)
        have := HN.out.2 hs
        cases this
      · exact h0
    rw [← hlen] at hok
    have HCS := hide (hok gg c Bs ss w3 cur rfl (HL3.out gg cur q2) q3 q4 q5 q6 R3.out)
    have HGG := hide (show w.heap.size ≤ gg by rw [HSZ.out] at q1; omega)
    have hcell : w3.cell? ⟨Bs, 0, none⟩ = some (.slice (some ⟨gg, 0, none⟩) ss.length c) := R3.out.cell 0
    have HBS := hide (show gg ≠ Bs from fun e => by
      have h1 := HL3.out gg cur q2
      rw [e, show w3.heap[Bs]? = _ from R3.out] at h1
      cases h1)
    have HSS := hide (show ss ≠ [] from fun e => by
      have := HN.out.2 e
      cases this)
    clear HF HMD HN HL3 HS hok q1 q2 q3 q4 q5 q6 hlen
    go_wp2_with (go_at_call 33; (with_reducible refine HCS.out.mono ?_); rintro e w4 ⟨rfl, ts, t1, t2, t3, t4⟩; replace R3 := hide (R3.out.grown t4 (fun e => absurd (Option.some.inj e).symm HBS.out)); clear hcell; have hcell : w4.cell? ⟨Bs, 0, none⟩ = some (.slice (some ⟨gg, 0, none⟩) ss.length c) := R3.out.cell 0)
    go_ret
    have e1 := perm_sorted (t1.trans HPS.out) t2 HUP.out
    have e2 : ss.length = (x.k.map Lc.i).length := HPS.out.length_eq
    subst e1
    refine ⟨_, rfl, ?_, ?_, below_own HW3.out t4 HGG.out⟩
    · rw [← e2]
      exact own_lowerg t3 HGG.out
    · constructor
      · intro h; cases h
      · intro h
        rw [h] at e2
        exact absurd (List.eq_nil_of_length_eq_zero e2) HSS.out
end Go.Proofs.YtiaegloipnhhdaaGreat
