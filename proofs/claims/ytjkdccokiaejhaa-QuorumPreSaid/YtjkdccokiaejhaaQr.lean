/- copy of structs of ints; eight cells stored side by side. No program is spoken of. -/
import Derived.Test.YtjkdccokiaejhaaQa
import Derived.Laws.CopyOwn
import Derived.Test.YtjkdccokiaejhaaQe
import Derived.OwnWalk
namespace Go.Proofs.Ytjkdccokiaejhaa
open Go.RowKit
theorem run_copy_its {P : Program} (w : World) (dT sT ty elem : TypeId) (g dLen dCap : Nat) (A : Option Addr) (n c m : Nat) (l : List (List Int)) (hu : P.underlying dT = some (.slice elem)) (hs : (P.info? elem).map (·.size) = some m)
    (cur : Array Value) (t : TypeId) (hg : w.heap[g]? = some (.cells cur t (0, 0))) (hn : l.length = n) (hfit : n ≤ dLen) (hsz : n * m ≤ cur.size) (ha : All m l) (hl : Its m w A l) :
    (Builtin.copy_ #[dT, sT] ty #[.slice (some ⟨g, 0, none⟩) dLen dCap, .slice A n c]).run P w = .ok (goInt n) (w.setRow g (cellsL l ++ cur.toList.drop (n * m)).toArray) := by
  have hlen : (cellsL l).length = n * m := by rw [length_cellsL ha, hn]
  have h1 : ∀ v ∈ cellsL l, v.oneCell' = true := fun v hv => by
    unfold cellsL cellsR at hv
    simp only [List.mem_flatMap, List.mem_map] at hv
    obtain ⟨_, _, _, _, rfl⟩ := hv
    rfl
  have hmin : Nat.min n dLen = n := Nat.min_eq_left hfit
  have hst := run_storeCells_at P g 0 t (cellsL l) 0 cur w hg (by rw [hlen]; omega) h1
  rw [Nat.zero_add, Nat.zero_add, List.take_zero, List.nil_append, hlen] at hst
  cases hq : P.info? elem with
  | none => simp [hq] at hs
  | some i =>
    have hi : i.size = m := by simpa [hq] using hs
    cases A with
    | some a =>
      have hsrc : ∀ j v, (cellsL l)[j]? = some v → w.cell? (a.add j) = some v := fun j v hj => by
        have hp : 0 < l.length := by
          rcases Nat.eq_zero_or_pos l.length with h0 | h0
          · obtain rfl := List.eq_nil_of_length_eq_zero h0
            simp [cellsL] at hj
          · exact h0
        obtain ⟨b, off, e, _, _⟩ := hl hp
        injection e with e
        subst e
        exact hl.cells ha j v hj
      have hld := run_loadCells_list (P := P) w a (cellsL l) hsrc
      rw [hlen] at hld
      simp [Builtin.copy_, run_underlying hu, Builtin.lenOf, Builtin.firstCells, sizeOf, typeInfo, hq, hi, hmin, hld, hst]
    | none =>
      have h0 : n = 0 := by
        rcases Nat.eq_zero_or_pos n with h0 | h0
        · exact h0
        · obtain ⟨b, off, e, _⟩ := hl (by omega)
          cases e
      have e0 : l = [] := List.eq_nil_of_length_eq_zero (by omega)
      subst h0
      rw [e0] at hst ⊢
      simp [cellsL] at hst ⊢
      simp [Builtin.copy_, run_underlying hu, Builtin.lenOf, Builtin.firstCells, sizeOf, typeInfo, hq, hst]
theorem wpList_copy_its {P : Program} {w : World} {ops : Array Oper} {rest : List Oper} {o : Oper} {a : Act} {Q : Exit → Act → World → Prop} (hgd : o.guard = none) (d s : Operand) (t : TypeId)
    (ho : o.op = .call { callee := .builtin .copy, args := #[d, s], argTypes := #[t, t] }) (elem : TypeId) (m : Nat) (hu : P.underlying t = some (.slice elem)) (hsz : (P.info? elem).map (·.size) = some m)
    (g dLen dCap : Nat) (hd : a.eval d = .slice (some ⟨g, 0, none⟩) dLen dCap) (A : Option Addr) (n c : Nat) (hs : a.eval s = .slice A n c) (l : List (List Int)) (cur : Array Value) (e : TypeId)
    (hg : w.heap[g]? = some (.cells cur e (0, 0))) (hn : l.length = n) (hfit : n ≤ dLen) (hcs : n * m ≤ cur.size) (ha : All m l) (hl : Its m w A l)
    (h : ∀ w', w' = w.setRow g (cellsL l ++ cur.toList.drop (n * m)).toArray → wpList P ops Q rest (a.put o.dst (goInt n)) w') : wpList P ops Q (o :: rest) a w := by
  refine wpList_plain hgd fun K hK => ?_
  have hrun := run_copy_its (P := P) w t t o.type elem g dLen dCap A n c m l hu hsz cur e hg hn hfit hcs ha hl
  unfold Oper.wp
  simp [execOp, ho, resolve, invoke, builtin, hd, hs, hrun, Result.andThen]
  exact hK _ _ (h _ rfl)
/-- Eight cells of an array set. -/
def put8 (cs : Array Value) (p : Nat) (v0 v1 v2 v3 v4 v5 v6 v7 : Value) : Array Value :=
  (((((((cs.setIfInBounds p v0).setIfInBounds (p + 1) v1).setIfInBounds (p + 2) v2).setIfInBounds (p + 3) v3).setIfInBounds (p + 4) v4).setIfInBounds (p + 5) v5).setIfInBounds (p + 6) v6).setIfInBounds (p + 7) v7
theorem size_put8 (cs : Array Value) (p : Nat) (v0 v1 v2 v3 v4 v5 v6 v7 : Value) : (put8 cs p v0 v1 v2 v3 v4 v5 v6 v7).size = cs.size := by simp [put8]
theorem put8_other (cs : Array Value) {p q : Nat} (h : q < p ∨ p + 8 ≤ q) (v0 v1 v2 v3 v4 v5 v6 v7 : Value) : (put8 cs p v0 v1 v2 v3 v4 v5 v6 v7)[q]? = cs[q]? := by
  unfold put8
  simp only [Array.getElem?_setIfInBounds]
  rw [if_neg (by omega), if_neg (by omega), if_neg (by omega), if_neg (by omega), if_neg (by omega), if_neg (by omega), if_neg (by omega), if_neg (by omega)]
theorem put8_in (cs : Array Value) {p i : Nat} (h : p + 8 ≤ cs.size) (hi : i < 8) (v0 v1 v2 v3 v4 v5 v6 v7 : Value) : (put8 cs p v0 v1 v2 v3 v4 v5 v6 v7)[p + i]? = [v0, v1, v2, v3, v4, v5, v6, v7][i]? := by
  unfold put8
  simp only [Array.getElem?_setIfInBounds, Array.size_setIfInBounds]
  match i, hi with
  | 0, _ => simp; omega
  | 1, _ => simp; omega
  | 2, _ => simp; omega
  | 3, _ => simp; omega
  | 4, _ => simp; omega
  | 5, _ => simp; omega
  | 6, _ => simp; omega
  | 7, _ => simp; omega
theorem Row.put8 {w : World} {g : Nat} {t : TypeId} {cs : Array Value} (h : Row w g t cs) (p : Nat) (v0 v1 v2 v3 v4 v5 v6 v7 : Value) :
    Row ((((((((w.setCell ⟨g, p, none⟩ v0).setCell ⟨g, p + 1, none⟩ v1).setCell ⟨g, p + 2, none⟩ v2).setCell ⟨g, p + 3, none⟩ v3).setCell ⟨g, p + 4, none⟩ v4).setCell ⟨g, p + 5, none⟩ v5).setCell ⟨g, p + 6, none⟩ v6).setCell ⟨g, p + 7, none⟩ v7) g t (put8 cs p v0 v1 v2 v3 v4 v5 v6 v7) :=
  (((((((h.put p v0).put (p + 1) v1).put (p + 2) v2).put (p + 3) v3).put (p + 4) v4).put (p + 5) v5).put (p + 6) v6).put (p + 7) v7
theorem below_put8 {B : Nat} {W w : World} {g : Nat} (h : Below B W w) (hg : B ≤ g) (p : Nat) (v0 v1 v2 v3 v4 v5 v6 v7 : Value) :
    Below B W ((((((((w.setCell ⟨g, p, none⟩ v0).setCell ⟨g, p + 1, none⟩ v1).setCell ⟨g, p + 2, none⟩ v2).setCell ⟨g, p + 3, none⟩ v3).setCell ⟨g, p + 4, none⟩ v4).setCell ⟨g, p + 5, none⟩ v5).setCell ⟨g, p + 6, none⟩ v6).setCell ⟨g, p + 7, none⟩ v7) :=
  (((((((h.setCell hg v0).setCell hg v1).setCell hg v2).setCell hg v3).setCell hg v4).setCell hg v5).setCell hg v6).setCell hg v7
end Go.Proofs.Ytjkdccokiaejhaa
/- concordbook.Same of instances and of attributes. Conditions: the slices' lengths have room. -/
namespace Go.Proofs.Ytjkdccokiaejhaa
open Go.RowKit
theorem len2 {x : List Int} (h : x.length = 2) : ∃ a b, x = [a, b] := by
  match x, h with
  | [a, b], _ => exact ⟨a, b, rfl⟩
set_option maxHeartbeats 2000000 in
theorem same_attr (A B : Option Addr) (n m c d : Nat) (zs ys : List (List Int)) (w : World) (hn : zs.length = n) (hm : ys.length = m) (az : All 8 zs) (ay : All 8 ys) (hz : Its 8 w A zs) (hy : Its 8 w B ys) (ln : n ≤ 4611686018427387904) (lm : m ≤ 4611686018427387904) :
    Calls Try.prog 41 #[.slice A n c, .slice B m d] w fun e w' => e = .returned (.bool (decide (zs = ys))) ∧ ∃ q, w' = w.drewN q := by
  subst hn hm
  by_cases hl : zs.length = ys.length
  · have hb : ((zs.length : Int) != (ys.length : Int)) = false := by rw [hl]; simp
    have HL := hide hl
    clear hl
    go_enter Try.func41, Try.ntmps41
    go_wp2
    go_loopw [5] (fun i wr => ∃ k q : Nat, k ≤ zs.length ∧ i = .int .i64 k ∧ wr = w.drewN q ∧ Hid (∀ j, j < k → zs[j]? = ys[j]?)) (fun i _ => zs.length - (intOf i).toNat)
    case atStart => exact ⟨0, 0, by omega, rfl, rfl, fun j hj => absurd hj (by omega)⟩
    case round =>
      obtain ⟨k, q, hk, rfl, rfl, hs⟩ := hrel
      by_cases hlt : k < zs.length
      · have hl := HL.out
        obtain ⟨x, hx⟩ : ∃ x, zs[k]? = some x := ⟨_, List.getElem?_eq_getElem hlt⟩
        obtain ⟨y, hyy⟩ : ∃ x, ys[k]? = some x := ⟨_, List.getElem?_eq_getElem (by omega)⟩
        obtain ⟨x0, x1, x2, x3, x4, x5, x6, x7, rfl⟩ := len8 (az.at_ hx)
        obtain ⟨y0, y1, y2, y3, y4, y5, y6, y7, rfl⟩ := len8 (ay.at_ hyy)
        obtain ⟨b1, o1, rfl, _, c⟩ := hz.at_ hx
        obtain ⟨b2, o2, rfl, _, d⟩ := hy.at_ hyy
        obtain ⟨c0, c1, c2, c3, c4, c5, c6, c7⟩ := eight_lit (eight_at c)
        obtain ⟨d0, d1, d2, d3, d4, d5, d6, d7⟩ := eight_lit (eight_at d)
        have heq := fun w => neq_attr x0 x1 x2 x3 x4 x5 x6 x7 y0 y1 y2 y3 y4 y5 y6 y7 w
        obtain ⟨p, hp⟩ : ∃ p, decide ([x0, x1, x2, x3, x4, x5, x6, x7] = [y0, y1, y2, y3, y4, y5, y6, y7]) = p := ⟨_, rfl⟩
        rw [hp] at heq
        have HP := hide hp
        have lt1 : k < ys.length := by omega
        have Hz := hide hz; have Hy := hide hy; have HX := hide hx; have HY := hide hyy; clear hz hy hx hyy hl c d hp
        cases p
        · go_wp2
          go_quiet (fail)
          go_wp2
          go_ret
          refine ⟨ret_bool ?_, _, World.drewN_drewN _ _ _⟩
          symm; rw [decide_eq_false_iff_not]; rintro rfl
          have := HX.out.symm.trans HY.out
          exact of_decide_eq_false HP.out (Option.some.inj this)
        · go_wp2
          go_quiet (fail)
          go_wp2
          go_roundw
          case rel => exact ⟨k + 1, _, by omega, by go_num, rfl, fun j hj => by
            rcases Nat.lt_or_ge j k with h1 | h1
            · exact hs.out j h1
            · obtain rfl : j = k := by omega
              rw [HX.out, HY.out, of_decide_eq_true HP.out]⟩
          case measure => simp [intOf]; omega
      · go_wp2
        go_ret
        refine ⟨ret_bool ?_, _, rfl⟩
        symm; rw [decide_eq_true_iff]
        apply List.ext_getElem?
        intro j
        rcases Nat.lt_or_ge j k with h1 | h1
        · exact hs.out j h1
        · have hl := HL.out
          rw [List.getElem?_eq_none (by omega), List.getElem?_eq_none (by omega)]
  · have hb : ((zs.length : Int) != (ys.length : Int)) = true := by simp; omega
    have HL := hide hl
    clear hl
    go_enter Try.func41, Try.ntmps41
    go_wp2
    go_ret
    exact ⟨ret_bool (by symm; rw [decide_eq_false_iff_not]; intro h; exact HL.out (by rw [h])), 0, rfl⟩
end Go.Proofs.Ytjkdccokiaejhaa
/- Roomy and Intact of attributes. Conditions: the slices lie in memory, their lengths have room. -/
namespace Go.Proofs.Ytjkdccokiaejhaa
open Go.RowKit
/-- The list, then the mark so often that it is q long. -/
def markTo (l : List (List Int)) (mk : List Int) (q : Nat) : List (List Int) := l ++ List.replicate (q - l.length) mk
theorem mark_here (l : List (List Int)) (mk : List Int) : markTo l mk l.length = l := by unfold markTo; rw [Nat.sub_self, List.replicate_zero, List.append_nil]
theorem mark_len {l : List (List Int)} (mk : List Int) {q : Nat} (h : l.length ≤ q) : (markTo l mk q).length = q := by unfold markTo; rw [List.length_append, List.length_replicate]; omega
theorem mark_next {l : List (List Int)} (mk : List Int) {q : Nat} (h : l.length ≤ q) : markTo l mk (q + 1) = markTo l mk q ++ [mk] := by
  unfold markTo
  rw [show q + 1 - l.length = (q - l.length) + 1 by omega, List.replicate_succ', List.append_assoc]
theorem mark_all {l : List (List Int)} {mk : List Int} (h : All 8 l) (hm : mk.length = 8) (q : Nat) : All 8 (markTo l mk q) := h.append (All.rep _ hm)
/-- While it marks: the mark, the row. -/
structure Rm (w wr : World) (l : List (List Int)) (mk : List Int) (q : Nat) : Prop where
  low : Below w.heap.size w wr
  m : Row wr w.heap.size 26 (cA mk)
  f : ∃ cs, Row wr (w.heap.size + 1) 26 cs ∧ cs.size = (l.length + 80) * 8 ∧ ∀ k x, (markTo l mk q)[k]? = some x → ∀ i, i < 8 → cs[k * 8 + i]? = some (.int .i64 (ix x i))
theorem Rm.its {w wr : World} {l : List (List Int)} {mk : List Int} {q : Nat} (h : Rm w wr l mk q) : Its 8 wr (some ⟨w.heap.size + 1, 0, none⟩) (markTo l mk q) := fun _ => by
  obtain ⟨cs, hr, _, hc⟩ := h.f
  exact ⟨w.heap.size + 1, 0, rfl, hr.lt, fun k x hk i hi => by rw [hr.cell, Nat.zero_add]; exact hc k x hk i hi⟩
/-- What a walk needs of it. -/
theorem Rm.cells {w wr : World} {l : List (List Int)} {mk : List Int} {q : Nat} (h : Rm w wr l mk q) (hq : q < l.length + 80) : ∀ i, i < 8 → ∃ v, wr.cell? ⟨w.heap.size + 1, q * 8 + i, none⟩ = some v ∧ wr.frozen? ⟨w.heap.size + 1, q * 8 + i, none⟩ = false := fun i hi => by
  obtain ⟨cs, hr, hs, _⟩ := h.f
  exact ⟨cs[q * 8 + i]'(by omega), by rw [hr.cell]; exact Array.getElem?_eq_getElem _, hr.free _⟩
theorem Rm.put {w wr : World} {l : List (List Int)} {m0 m1 m2 m3 m4 m5 m6 m7 : Int} {q : Nat} (h : Rm w wr l [m0, m1, m2, m3, m4, m5, m6, m7] q) (h0 : l.length ≤ q) (hq : q < l.length + 80) :
    Rm w ((((((((wr.setCell ⟨w.heap.size + 1, q * 8, none⟩ (.int .i64 m0)).setCell ⟨w.heap.size + 1, q * 8 + 1, none⟩ (.int .i64 m1)).setCell ⟨w.heap.size + 1, q * 8 + 2, none⟩ (.int .i64 m2)).setCell ⟨w.heap.size + 1, q * 8 + 3, none⟩ (.int .i64 m3)).setCell ⟨w.heap.size + 1, q * 8 + 4, none⟩ (.int .i64 m4)).setCell ⟨w.heap.size + 1, q * 8 + 5, none⟩ (.int .i64 m5)).setCell ⟨w.heap.size + 1, q * 8 + 6, none⟩ (.int .i64 m6)).setCell ⟨w.heap.size + 1, q * 8 + 7, none⟩ (.int .i64 m7)) l [m0, m1, m2, m3, m4, m5, m6, m7] (q + 1) := by
  obtain ⟨cs, hr, hs, hc⟩ := h.f
  refine ⟨below_put8 h.low (Nat.le_succ _) _ _ _ _ _ _ _ _ _, ?_, _, hr.put8 _ _ _ _ _ _ _ _ _, by rw [size_put8, hs], fun k x hk i hi => ?_⟩
  · have hb := below_put8 (Below.refl (w.heap.size + 1) wr) (Nat.le_refl _) (q * 8) (.int .i64 m0) (.int .i64 m1) (.int .i64 m2) (.int .i64 m3) (.int .i64 m4) (.int .i64 m5) (.int .i64 m6) (.int .i64 m7)
    exact (hb.block _ (Nat.lt_succ_self _)).trans h.m
  · rw [mark_next _ h0] at hk
    by_cases hkq : k < q
    · rw [put8_other _ (by omega)]
      rw [List.getElem?_append_left (by rw [mark_len _ h0]; exact hkq)] at hk
      exact hc k x hk i hi
    · have hl : k < q + 1 := by
        rcases Nat.lt_or_ge k (q + 1) with h1 | h1
        · exact h1
        · rw [List.getElem?_eq_none (by rw [List.length_append, mark_len _ h0]; exact h1)] at hk; cases hk
      obtain rfl : k = q := by omega
      rw [List.getElem?_append_right (by rw [mark_len _ h0]; exact Nat.le_refl _), mark_len _ h0, Nat.sub_self] at hk
      have hx : [m0, m1, m2, m3, m4, m5, m6, m7] = x := by simpa using hk
      subst hx
      rw [put8_in _ (by rw [hs]; omega) hi]
      match i, hi with
      | 0, _ => rfl
      | 1, _ => rfl
      | 2, _ => rfl
      | 3, _ => rfl
      | 4, _ => rfl
      | 5, _ => rfl
      | 6, _ => rfl
      | 7, _ => rfl
set_option maxRecDepth 100000 in
set_option maxHeartbeats 4000000 in
theorem roomy8_any (A : Option Addr) (n c : Nat) (l : List (List Int)) (m0 m1 m2 m3 m4 m5 m6 m7 : Int) (w : World) (hn : l.length = n) (ha : All 8 l) (hl : Its 8 w A l) (ln : n ≤ 1000) :
    Calls Try.prog 22 #[.slice A n c, .agg #[.int .i64 m0, .int .i64 m1, .int .i64 m2, .int .i64 m3, .int .i64 m4, .int .i64 m5, .int .i64 m6, .int .i64 m7]] w fun e w' =>
      e = .returned (.slice (some ⟨w.heap.size + 1, 0, none⟩) (n + 80) (n + 80)) ∧ Its 8 w' (some ⟨w.heap.size + 1, 0, none⟩) (l ++ List.replicate 80 [m0, m1, m2, m3, m4, m5, m6, m7]) ∧ Below w.heap.size w w' := by
  subst hn
  obtain ⟨i0, hi, hz0, hz1, hz2⟩ := info_parts (show (Try.prog.info? 26).map (fun i => (i.zero, i.size, i.bytes)) = some (some (.agg #[.int .i64 0, .int .i64 0, .int .i64 0, .int .i64 0, .int .i64 0, .int .i64 0, .int .i64 0, .int .i64 0]), 8, 64) by kernel_rfl)
  have hsz := hide (show (Try.prog.info? 26).map (·.size) = some 8 by rw [hi]; exact congrArg some hz1)
  have hu : Try.prog.underlying 45 = some (.slice 26) := by kernel_rfl
  have HM := hide (Row.new w 26 (cA [m0, m1, m2, m3, m4, m5, m6, m7]))
  have HL := hide hl
  have HA := hide ha
  clear hl ha
  go_enter Try.func22, Try.ntmps22
  go_wp2_with (at_make; refine wpList_make_full _ rfl _ _ 45 rfl (w.heap.size + 1) 26 i0 _ 8 hu hi hz0 hz1 _ _ _ _ (l.length + 80) rfl rfl (by omega) (by omega) ?b2 ?b3 (by simp) ?_)
  case b2 => rw [hz2]; omega
  case b3 => unfold maxLen; omega
  intro w0 hown0 hgrow0
  obtain ⟨cur, hcur, hcsz⟩ : ∃ cur, w0.heap[w.heap.size + 1]? = some (.cells cur 26 (0, 0)) ∧ cur.size = (l.length + 80) * 8 := by
    rcases hown0.2 with ⟨h0, _⟩ | ⟨g', cap, cur, hv, hb, hh, _, hm, hs, ht⟩
    · cases h0
    · injection hv with h1 _ h3
      injection h1 with h1
      injection h1 with h1
      subst h1 h3
      exact ⟨cur, hh, hs⟩
  have hb0 : Below w.heap.size w w0 := kept_trans (kept_alloc (kept_refl w) _) (below_grown hgrow0)
  have HL0 := hide (HL.out.below hb0)
  have HM0 := hide (HM.out.grown hgrow0 (by simp))
  have HB0 := hide hb0
  clear HL HM hown0 hgrow0 hb0 hi hz0 hz1 hz2
  have hcopy := run_copy_its (P := Try.prog) w0 45 45 3 26 (w.heap.size + 1) (l.length + 80) (l.length + 80) A l.length c 8 l hu hsz.out cur _ hcur rfl (by omega) (by omega) HA.out HL0.out
  obtain ⟨w1, hw1⟩ : ∃ w1, w1 = w0.setRow (w.heap.size + 1) (cellsL l ++ cur.toList.drop (l.length * 8)).toArray := ⟨_, rfl⟩
  rw [← hw1] at hcopy
  have ST : Hid (Rm w w1 l [m0, m1, m2, m3, m4, m5, m6, m7] l.length) := by
    subst hw1
    refine ⟨HB0.out.trans ⟨rfl, rfl, rfl, by simp [World.setRow], fun k hk => setRow_other w0 _ k _ (by omega)⟩, (setRow_other w0 _ _ _ (by omega)).trans HM0.out, _, setRow_heap w0 _ cur _ _ _ hcur, ?_, fun k x hk i hi => ?_⟩
    · simp [length_cellsL HA.out, hcsz]; omega
    · rw [mark_here] at hk
      have h1 := cellsL_of HA.out hk i hi
      have h2 : k * 8 + i < (cellsL l).length := by
        rcases Nat.lt_or_ge (k * 8 + i) (cellsL l).length with h3 | h3
        · exact h3
        · rw [List.getElem?_eq_none h3] at h1; cases h1
      rw [List.getElem?_toArray, List.getElem?_append_left h2]
      exact h1
  clear hw1 hcur hcsz HB0 HM0 HL0 HA hu hsz
  go_wp2
  go_loopw [6] (fun i wr => ∃ q : Nat, l.length ≤ q ∧ q ≤ l.length + 80 ∧ i = .int .i64 q ∧ Hid (Rm w wr l [m0, m1, m2, m3, m4, m5, m6, m7] q)) (fun i _ => l.length + 80 - (intOf i).toNat)
  case atStart => exact ⟨l.length, by omega, by omega, rfl, ST⟩
  case round =>
    clear ST
    obtain ⟨q, hq0, hq1, rfl, J⟩ := hrel
    by_cases hlt : q < l.length + 80
    · have hlt' : (q : Int) < (l.length : Int) + 80 := by omega
      obtain ⟨f0, f1, f2, f3, f4, f5, f6, f7⟩ := eight_lit8 J.out.m
      obtain ⟨v0, c0, g0⟩ := J.out.cells hlt 0 (by omega)
      obtain ⟨v1, c1, g1⟩ := J.out.cells hlt 1 (by omega)
      obtain ⟨v2, c2, g2⟩ := J.out.cells hlt 2 (by omega)
      obtain ⟨v3, c3, g3⟩ := J.out.cells hlt 3 (by omega)
      obtain ⟨v4, c4, g4⟩ := J.out.cells hlt 4 (by omega)
      obtain ⟨v5, c5, g5⟩ := J.out.cells hlt 5 (by omega)
      obtain ⟨v6, c6, g6⟩ := J.out.cells hlt 6 (by omega)
      obtain ⟨v7, c7, g7⟩ := J.out.cells hlt 7 (by omega)
      replace c0 : wr.cell? ⟨w.heap.size + 1, q * 8, none⟩ = some v0 := c0
      replace g0 : wr.frozen? ⟨w.heap.size + 1, q * 8, none⟩ = false := g0
      have J1 := hide (J.out.put hq0 hlt)
      clear J
      go_wp2
      go_roundw
      case rel => exact ⟨q + 1, by omega, by omega, by go_num, J1⟩
      case measure => simp [intOf]; omega
    · obtain rfl : q = l.length + 80 := by omega
      go_wp2
      go_ret
      have h := J.out.its
      unfold markTo at h
      rw [show l.length + 80 - l.length = 80 by omega] at h
      exact ⟨rfl, h, J.out.low⟩
end Go.Proofs.Ytjkdccokiaejhaa
/- Intact of attributes. Conditions: the slices lie in memory, their lengths have room. -/
namespace Go.Proofs.Ytjkdccokiaejhaa
open Go.RowKit
set_option maxRecDepth 100000 in
set_option maxHeartbeats 4000000 in
theorem intact8_any (A B : Option Addr) (n m c d : Nat) (ys : List (List Int)) (m0 m1 m2 m3 m4 m5 m6 m7 : Int) (w : World) (hn : m + 80 = n) (hm : ys.length = m) (ay : All 8 ys) (hz : Its 8 w A (ys ++ List.replicate 80 [m0, m1, m2, m3, m4, m5, m6, m7])) (hy : Its 8 w B ys) (ln : n ≤ c) (lc : c ≤ 4611686018427387904) (lm : m ≤ 4611686018427387904) :
    Calls Try.prog 26 #[.slice A n c, .slice B m d, .agg #[.int .i64 m0, .int .i64 m1, .int .i64 m2, .int .i64 m3, .int .i64 m4, .int .i64 m5, .int .i64 m6, .int .i64 m7]] w fun e w' => e = .returned (.bool true) ∧ Below w.heap.size w w' := by
  subst hn hm
  have hlen : (ys ++ List.replicate 80 [m0, m1, m2, m3, m4, m5, m6, m7]).length = ys.length + 80 := by simp
  have hat : ∀ k, ys.length ≤ k → k < ys.length + 80 → (ys ++ List.replicate 80 [m0, m1, m2, m3, m4, m5, m6, m7])[k]? = some [m0, m1, m2, m3, m4, m5, m6, m7] := fun k h1 h2 => by
    rw [List.getElem?_append_right h1, List.getElem?_replicate, if_pos (by omega)]
  have hz1 := hz.alloc (.cells #[.int .i64 m0, .int .i64 m1, .int .i64 m2, .int .i64 m3, .int .i64 m4, .int .i64 m5, .int .i64 m6, .int .i64 m7] 26)
  have hy1 := hy.alloc (.cells #[.int .i64 m0, .int .i64 m1, .int .i64 m2, .int .i64 m3, .int .i64 m4, .int .i64 m5, .int .i64 m6, .int .i64 m7] 26)
  have hy2 := hz1.take ys.length
  rw [List.take_left] at hy2
  have hsame := hide (fun c' => same_attr A B ys.length ys.length c' d ys ys (w.alloc (.cells #[.int .i64 m0, .int .i64 m1, .int .i64 m2, .int .i64 m3, .int .i64 m4, .int .i64 m5, .int .i64 m6, .int .i64 m7] 26)) rfl rfl ay ay hy2 hy1 lm lm)
  have hM := hide (show Row (w.alloc (.cells #[.int .i64 m0, .int .i64 m1, .int .i64 m2, .int .i64 m3, .int .i64 m4, .int .i64 m5, .int .i64 m6, .int .i64 m7] 26)) w.heap.size 26 (cA [m0, m1, m2, m3, m4, m5, m6, m7]) from Row.new _ _ _)
  have hB := hide (kept_alloc (kept_refl w) (.cells #[.int .i64 m0, .int .i64 m1, .int .i64 m2, .int .i64 m3, .int .i64 m4, .int .i64 m5, .int .i64 m6, .int .i64 m7] 26))
  have HAT := hide (fun k h1 h2 => hz1.at_ (hat k h1 h2))
  have hneq : ∀ w, (binOp .neq 26 (.agg #[.int .i64 m0, .int .i64 m1, .int .i64 m2, .int .i64 m3, .int .i64 m4, .int .i64 m5, .int .i64 m6, .int .i64 m7]) (.agg #[.int .i64 m0, .int .i64 m1, .int .i64 m2, .int .i64 m3, .int .i64 m4, .int .i64 m5, .int .i64 m6, .int .i64 m7])).run Try.prog w = .ok (.bool false) w := fun w => by
    rw [neq_attr]; simp
  have hd : decide (ys = ys) = true := decide_eq_true rfl
  rw [hd] at hsame
  clear hz hy hz1 hy1 hy2 ay hlen hat hd
  go_enter Try.func26, Try.ntmps26
  go_upto_region 1 with (fail)
  generalize World.alloc w _ = w1 at hsame hM hB HAT ⊢
  go_wp2_with (go_at_call 41; refine (hsame.out _).mono ?_; rintro e w' ⟨rfl, q, rfl⟩)
  go_loopw [7] (fun i wr => ∃ k q : Nat, ys.length ≤ k ∧ k ≤ ys.length + 80 ∧ i = .int .i64 k ∧ wr = w1.drewN q) (fun i _ => ys.length + 80 - (intOf i).toNat)
  case atStart => exact ⟨ys.length, _, by omega, by omega, rfl, rfl⟩
  case round =>
    obtain ⟨k, q, hk0, hk, rfl, rfl⟩ := hrel
    by_cases hlt : k < ys.length + 80
    · have hlt' : (k : Int) < (ys.length : Int) + 80 := by omega
      obtain ⟨b1, o1, rfl, _, hc⟩ := HAT.out k hk0 hlt
      have e0 : w1.cell? ⟨b1, o1 + k * 8, none⟩ = some (.int .i64 m0) := hc 0 (by omega)
      have e1 : w1.cell? ⟨b1, o1 + k * 8 + 1, none⟩ = some (.int .i64 m1) := hc 1 (by omega)
      have e2 : w1.cell? ⟨b1, o1 + k * 8 + 2, none⟩ = some (.int .i64 m2) := hc 2 (by omega)
      have e3 : w1.cell? ⟨b1, o1 + k * 8 + 3, none⟩ = some (.int .i64 m3) := hc 3 (by omega)
      have e4 : w1.cell? ⟨b1, o1 + k * 8 + 4, none⟩ = some (.int .i64 m4) := hc 4 (by omega)
      have e5 : w1.cell? ⟨b1, o1 + k * 8 + 5, none⟩ = some (.int .i64 m5) := hc 5 (by omega)
      have e6 : w1.cell? ⟨b1, o1 + k * 8 + 6, none⟩ = some (.int .i64 m6) := hc 6 (by omega)
      have e7 : w1.cell? ⟨b1, o1 + k * 8 + 7, none⟩ = some (.int .i64 m7) := hc 7 (by omega)
      have f := eight_lit8 hM.out
      clear hc
      go_wp2
      go_quiet (fail)
      go_wp2
      go_roundw
      case rel => exact ⟨k + 1, _, by omega, by omega, by go_num, rfl⟩
      case measure => simp [intOf]; omega
    · obtain rfl : k = ys.length + 80 := by omega
      go_wp2
      go_ret
      exact ⟨rfl, kept_drewN hB.out _⟩
end Go.Proofs.Ytjkdccokiaejhaa
