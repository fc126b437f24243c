/- The program's Fits, Slow, Fast, Noop. Conditions: the numbers have room. -/
import Derived.Test.YtjkdccokiaejhaaQj
import Derived.Test.YtjkdccokiaejhaaQa
import Derived.Test.YtjkdccokiaejhaaQi
import Derived.LoopTactic
import Derived.Test.YtjkdccokiaejhaaQh
import Derived.Lib.AppendZerosOnto
namespace Go.Proofs.Ytjkdccokiaejhaa
set_option maxRecDepth 100000
open Go.RowKit
/-- What is asked of the program's Fits, Fast, Noop. -/
def FitsOk : Prop := ∀ (n : Int) (B : Bool) (w : World), decide (n = 3 ∨ n = 5 ∨ n = 7) = B → -9223372036854775808 ≤ n ∧ n ≤ 9223372036854775807 → Calls Try.prog 15 #[.int .i64 n] w fun e w' => e = .returned (.bool B) ∧ w = w'
def FastOk : Prop := ∀ (k : Nat) (w : World), 3 ≤ k → k ≤ 100 → Calls Try.prog 20 #[.int .i64 (k : Nat)] w fun e w' => e = .returned (.int .i64 ((k : Int) - 1)) ∧ w = w'
def NoopOk : Prop := ∀ (r s : Int) (w : World), Calls Try.prog 16 #[.agg #[.int .i64 r, .int .i64 s]] w fun e w' => e = .returned (.agg (cA (noopL r s))) ∧ Below w.heap.size w w'
theorem fits_ok : FitsOk := by
  intro n B w hB hn
  by_cases h3 : 3 ≤ n
  · by_cases h7 : n ≤ 7
    · have hx : n = 3 ∨ n = 4 ∨ n = 5 ∨ n = 6 ∨ n = 7 := by omega
      clear h3 h7 hn
      rcases hx with rfl | rfl | rfl | rfl | rfl
      all_goals
        subst hB
        go_enter Try.func15, Try.ntmps15
        go_wp2
        go_ret
        exact ⟨rfl, rfl⟩
    · rw [decide_eq_false (by omega)] at hB
      subst hB
      go_enter Try.func15, Try.ntmps15
      go_wp2
      go_ret
      exact ⟨rfl, rfl⟩
  · rw [decide_eq_false (by omega)] at hB
    subst hB
    go_enter Try.func15, Try.ntmps15
    go_wp2
    go_ret
    exact ⟨rfl, rfl⟩
theorem pslow_any (n : Nat) (hn : n ≤ 1000) (w : World) : Calls Try.prog 18 #[.int .i64 (n : Nat)] w fun e w' => e = .returned (.int .i64 ((n / 2 + 1 : Nat) : Int)) ∧ w = w' := by
  have h1 : ((n / 2 + 1 : Nat) : Int) = (n : Int) / 2 + 1 := by omega
  rw [h1]
  go_enter Try.func18, Try.ntmps18
  go_wp2
  go_ret
  exact ⟨ret_int (by go_num), rfl⟩
theorem pfast_any (n : Nat) (hn : n ≤ 1000) (w : World) : Calls Try.prog 20 #[.int .i64 (n : Nat)] w fun e w' => e = .returned (.int .i64 ((n : Int) - 1)) ∧ w = w' := by
  go_enter Try.func20, Try.ntmps20
  go_wp2
  go_ret
  exact ⟨ret_int (by go_num), rfl⟩
theorem slow_ok : SlowOk := fun k w hk => (pslow_any k (by omega) w).mono fun e w' h => ⟨h.1, by rw [h.2]; exact kept_refl _⟩
theorem fast_ok : FastOk := fun k w _ hk => pfast_any k (by omega) w
set_option maxHeartbeats 1000000 in
theorem pinst_any (r s : Int) (B : Bool) (hB : decide (0 ≤ r ∧ r < 7 ∧ 1 ≤ s ∧ s ≤ 1073741824) = B) (w : World) : Calls Try.prog 35 #[.agg #[.int .i64 r, .int .i64 s]] w fun e w' => e = .returned (.bool B) ∧ w' = w.alloc (.cells #[.int .i64 r, .int .i64 s] 40) := by
  have hR : rightI r s = B := by
    rw [← hB]
    unfold rightI repB
    by_cases h : 0 ≤ r ∧ r < 7 ∧ 1 ≤ s ∧ s ≤ 1073741824
    · rw [decide_eq_true h]; simp; omega
    · rw [decide_eq_false h]; simp; omega
  rw [← hR]
  clear hR hB
  have hc := fun W => isreplica_any r W
  unfold rightI
  generalize repB r = p at hc ⊢
  go_enter Try.func35, Try.ntmps35
  go_wp2_with (go_at_call 47; refine (hc _).mono ?_; rintro e w' ⟨rfl, rfl⟩)
  all_goals (go_ret; exact ⟨ret_bool (by first | (simp [*]; done) | (simp [*] <;> omega)), rfl⟩)
set_option maxHeartbeats 2000000 in
theorem noop_ok : NoopOk := by
  intro r s w
  by_cases hr : 0 ≤ r ∧ r < 7 ∧ 1 ≤ s ∧ s ≤ 1073741824
  · have HI := hide (fun w => pinst_any r s true (decide_eq_true hr) w)
    have hs1 := hr.2.2.1
    have hs2 := hr.2.2.2
    have hx : r = 0 ∨ r = 1 ∨ r = 2 ∨ r = 3 ∨ r = 4 ∨ r = 5 ∨ r = 6 := by omega
    rcases hx with rfl | rfl | rfl | rfl | rfl | rfl | rfl
    all_goals
      unfold noopL tab8
      simp only [hs1, hs2]
      clear hr
      go_enter Try.func16, Try.ntmps16
      go_wp2_with (go_at_call 35; (with_reducible refine (HI.out _).mono ?_); rintro e w2 ⟨rfl, rfl⟩)
      refine bodyPost_ret (results_at8 Try.results16 rfl (noop_row _ _ _ _ _ _)) rfl ⟨rfl, ?_⟩
      repeat (first | exact kept_refl _ | refine kept_alloc ?_ _)
  · have HI := hide (fun w => pinst_any r s false (decide_eq_false hr) w)
    have hz : noopL r s = zero8 := by
      unfold noopL tab8 zero8
      have h : ∀ i : Nat, ¬ (0 ≤ r ∧ r < 7 ∧ 1 ≤ s ∧ s ≤ 1073741824 ∧ (i : Int) = r + 1) := fun i h => hr ⟨h.1, h.2.1, h.2.2.1, h.2.2.2.1⟩
      simp only [if_neg (h _)]
    rw [hz]
    clear hr
    go_enter Try.func16, Try.ntmps16
    go_wp2_with (go_at_call 35; (with_reducible refine (HI.out _).mono ?_); rintro e w2 ⟨rfl, rfl⟩)
    refine bodyPost_ret (results_at8 Try.results16 rfl (noop_row _ _ _ _ _ _)) rfl ⟨rfl, ?_⟩
    repeat (first | exact kept_refl _ | refine kept_alloc ?_ _)
end Go.Proofs.Ytjkdccokiaejhaa
/- The program's count: how many replies are just that. Conditions: the replies lie in memory, all attributes are eight numbers. -/
namespace Go.Proofs.Ytjkdccokiaejhaa
set_option maxRecDepth 100000
open Go.RowKit
/-- While it counts: what is sought. -/
structure Cnr (W w : World) (own : List Int) : Prop where
  low : Below W.heap.size W w
  o : Row w W.heap.size 26 (cA own)
theorem Cnr.kept {W w w' : World} {own : List Int} (h : Cnr W w own) (hb : Below w.heap.size w w') : Cnr W w' own := ⟨kept_trans h.low hb, h.o.below hb h.o.lt⟩
theorem cA_all (x : List Int) : (cA x).all (·.oneCell') = true := all_oneCell_toArray one_ints
set_option maxHeartbeats 4000000 in
theorem count_any {own : List Int} {A : Option Addr} {m c : Nat} {zs : List (List Int)} {w : World} (h8 : own.length = 8) (hm : zs.length = m) (a8 : All 8 zs) (hz : Its 8 w A zs) (hl : m ≤ 1000) :
    Calls Try.prog 37 #[.agg (cA own), .slice A m c] w fun e w' => e = .returned (.int .i64 (sameN own zs : Nat)) ∧ Below w.heap.size w w' := by
  have HZ := hide hz
  have HA := hide a8
  have HM := hide hm
  have HP0 := hide (show Cnr w (w.alloc (.cells (cA own) 26)) own from ⟨kept_alloc (kept_refl w) _, Row.new w _ _⟩)
  clear hz a8 hm
  go_enter Try.func37, Try.ntmps37
  go_upto_region 1 with (fail)
  generalize w.alloc (.cells (cA own) 26) = w1 at HP0 ⊢
  go_wp2
  go_loopw [5, 10] (fun s i wr => ∃ k : Nat, k ≤ m ∧ s = .int .i64 (sameN own (zs.take k) : Nat) ∧ i = .int .i64 k ∧ Hid (Cnr w wr own)) (fun _ i _ => m - (intOf i).toNat)
  case atStart => exact ⟨0, Nat.zero_le _, rfl, rfl, HP0⟩
  case round =>
    clear HP0
    obtain ⟨k, hk, rfl, rfl, HP⟩ := hrel
    by_cases hlt : k < m
    · have hlti : (k : Int) < (m : Int) := by omega
      obtain ⟨x, hx⟩ : ∃ x, zs[k]? = some x := ⟨_, List.getElem?_eq_getElem (by rw [HM.out]; exact hlt)⟩
      have hx8 := HA.out.at_ hx
      obtain ⟨q, off, hA, hr⟩ := its_range (HZ.out.below HP.out.low) HA.out hx
      subst hA
      have HSS := hide (sameN_snoc own hx)
      have hsl : sameN own (zs.take k) ≤ 1000 := Nat.le_trans (sameN_le _ _) (by rw [List.length_take]; omega)
      generalize sameN own (zs.take k) = sn at HSS hsl ⊢
      clear hx
      have hE := fun w => eql_at hx8 h8 w
      go_upto_region 5 with (first
        | ((with_reducible refine wpList_load_at hx8 ?_ ?_ hr ?_); rfl; rfl)
        | ((with_reducible refine wpList_store_new (vs := cA x) ?_ ?_ (cA_all _) ?_ ?_ ?_); (rw [cA_size hx8]; exact at_info); (rw [cA_size hx8]; rfl); (first | rfl | (simp; done)); rfl))
      try dsimp only [Act.put]
      have HX := hide (Row.new wr 26 (cA x))
      replace HP := hide (HP.out.kept (kept_alloc (kept_refl wr) (.cells (cA x) 26)))
      generalize wr.alloc (.cells (cA x) 26) = w3 at HX HP ⊢
      generalize wr.heap.size = gx at HX ⊢
      clear hr
      by_cases hxe : x = own
      · have HXE := hide hxe
        rw [decide_eq_true hxe] at hE
        clear hxe
        go_wp2_with (first
          | ((with_reducible refine wpList_load_at hx8 ?_ ?_ HX.out.at8 ?_); rfl; rfl)
          | ((with_reducible refine wpList_load_at h8 ?_ ?_ HP.out.o.at8 ?_); rfl; rfl))
        go_roundw
        case rel => exact ⟨k + 1, by omega, by rw [HSS.out, if_pos HXE.out]; go_num, by go_num, HP⟩
        case measure => simp [intOf]; omega
      · have HXE := hide hxe
        rw [decide_eq_false hxe] at hE
        clear hxe
        go_wp2_with (first
          | ((with_reducible refine wpList_load_at hx8 ?_ ?_ HX.out.at8 ?_); rfl; rfl)
          | ((with_reducible refine wpList_load_at h8 ?_ ?_ HP.out.o.at8 ?_); rfl; rfl))
        go_roundw
        case rel => exact ⟨k + 1, by omega, by rw [HSS.out, if_neg HXE.out]; go_num, by go_num, HP⟩
        case measure => simp [intOf]; omega
    · have hlti : ¬ (k : Int) < (m : Int) := by omega
      have hkm : k = m := by omega
      subst hkm
      have htk : zs.take k = zs := List.take_of_length_le (by rw [HM.out]; exact Nat.le_refl _)
      rw [htk]
      go_wp2
      go_ret
      exact ⟨rfl, HP.out.low⟩
end Go.Proofs.Ytjkdccokiaejhaa
/- What slices.Grow of nothing, and slices.Concat of slices of attributes, come to. Conditions: the slices lie in memory, their lengths have room. -/
namespace Go.Proofs.Ytjkdccokiaejhaa
set_option maxRecDepth 100000
open Go.RowKit
/-- Attributes as lists of cells. -/
def atV (l : List (List Int)) : List (List Value) := l.map cellsR
theorem atV_len (l : List (List Int)) : (atV l).length = l.length := by unfold atV; simp
theorem atV_append (l r : List (List Int)) : atV (l ++ r) = atV l ++ atV r := by unfold atV; simp
theorem atV_all {l : List (List Int)} (h : All 8 l) : AllV 8 (atV l) := fun v hv => by
  obtain ⟨e, he, rfl⟩ := List.mem_map.1 hv
  exact ⟨by rw [length_cellsR]; exact h e he, one_ints⟩
/-- A row of these attributes of the call's own. -/
def Mine8 (base : Nat) (w : World) (v : Value) (l : List (List Int)) : Prop := w.ownsRow base 26 8 v l.length (cellsV (atV l))
theorem Mine8.nil_ (base : Nat) (w : World) : Mine8 base w (.slice none 0 0) [] := ⟨rfl, .inl ⟨rfl, rfl⟩⟩
theorem Mine8.lt {base : Nat} {w : World} {v : Value} {l : List (List Int)} (h : Mine8 base w v l) : ∀ k, v.ownBlock = some k → base ≤ k := fun k hk => by
  unfold Mine8 at h
  exact (h.lt k hk).1
def MadeP (w : World) (l : List (List Int)) (e : Ending) (w' : World) : Prop := ∃ v, e = .returned v ∧ Mine8 w.heap.size w' v l ∧ Below w.heap.size w w'
theorem attr_parts : ∃ i, Try.prog.info? 26 = some i ∧ i.zero = some (.agg #[.int .i64 0, .int .i64 0, .int .i64 0, .int .i64 0, .int .i64 0, .int .i64 0, .int .i64 0, .int .i64 0]) ∧ i.size = 8 ∧ i.bytes = 64 := 
  info_parts (show (Try.prog.info? 26).map (fun i => (i.zero, i.size, i.bytes)) = some (some (.agg #[.int .i64 0, .int .i64 0, .int .i64 0, .int .i64 0, .int .i64 0, .int .i64 0, .int .i64 0, .int .i64 0]), 8, 64) by kernel_rfl)
theorem under_attrs : Try.prog.underlying 45 = some (.slice 26) := by kernel_rfl
set_option maxRecDepth 100000 in
set_option maxHeartbeats 2000000 in
theorem grow_nil (n : Nat) (w : World) (ln : n ≤ 1048576) :
    Calls Try.prog 48 #[.slice none 0 0, .int .i64 n] w (MadeP w []) := by
  rcases Nat.eq_zero_or_pos n with h0 | h0
  · subst h0
    go_enter Try.func48, Try.ntmps48
    go_wp2
    go_ret
    exact ⟨_, rfl, ⟨rfl, .inl ⟨rfl, rfl⟩⟩, Below.refl _ _⟩
  · obtain ⟨i0, hi, hz0, hz1, hz2⟩ := attr_parts
    have hrz := fun ty => Lib.run_append_nil_zeros w 45 3 ty 26 i0 _ .i64 .i64 under_attrs Try.underlying3 hi hz0 n h0 (by omega) (by omega) (by rw [hz2]; omega)
    have hcap := grownCap_le_maxLen w n 0 26 (by unfold maxLen; omega)
    have hge := grownCap_ge w n 0 26
    have hlen : ∀ k, (Builtin.zeroCells (Value.agg #[.int .i64 0, .int .i64 0, .int .i64 0, .int .i64 0, .int .i64 0, .int .i64 0, .int .i64 0, .int .i64 0]).cells k).size = k * 8 := by intro k; simp [Builtin.zeroCells, Value.cells]
    generalize grownCap w n 0 26 = G at *
    have hZ : (Builtin.zeroCells (Value.agg #[.int .i64 0, .int .i64 0, .int .i64 0, .int .i64 0, .int .i64 0, .int .i64 0, .int .i64 0, .int .i64 0]).cells n ++ Builtin.zeroCells (Value.agg #[.int .i64 0, .int .i64 0, .int .i64 0, .int .i64 0, .int .i64 0, .int .i64 0, .int .i64 0, .int .i64 0]).cells (G - n)).size = G * 8 := by rw [Array.size_append, hlen, hlen]; omega
    generalize Builtin.zeroCells (Value.agg #[.int .i64 0, .int .i64 0, .int .i64 0, .int .i64 0, .int .i64 0, .int .i64 0, .int .i64 0, .int .i64 0]).cells n ++ Builtin.zeroCells (Value.agg #[.int .i64 0, .int .i64 0, .int .i64 0, .int .i64 0, .int .i64 0, .int .i64 0, .int .i64 0, .int .i64 0]).cells (G - n) = Z at *
    clear hi hz0 hz1 hz2
    have hcap' := hcap
    unfold maxLen at hcap'
    go_enter Try.func48, Try.ntmps48
    go_wp2_with (at_builtin; refine Lib.wpList_append_run _ rfl _ _ _ _ rfl _ _ rfl rfl _ _ (hrz _) ?_)
    go_ret
    refine ⟨_, rfl, ⟨rfl, .inr ⟨w.heap.size, G, Z, rfl, Nat.le_refl _, ?_, by simp, hcap, by omega, rfl⟩⟩, (Below.refl _ _).drew.alloc (Nat.le_refl _) _⟩
    show (w.drew.heap.push _)[w.drew.heap.size]? = _
    rw [Array.getElem?_push, if_pos rfl]
/-- A slice that Concat is given. -/
structure Src where
  A : Option Addr
  n : Nat
  c : Nat
  l : List (List Int)
structure Src.Ok (w : World) (s : Src) : Prop where
  len : s.l.length = s.n
  nil : s.A = none → s.c = 0
  lies : Els 8 w s.A (atV s.l)
  a8 : All 8 s.l
def catP (ss : List Src) (k : Nat) : List (List Int) := (ss.take k).flatMap Src.l
theorem catP_succ {ss : List Src} {k : Nat} {s : Src} (h : ss[k]? = some s) : catP ss (k + 1) = catP ss k ++ s.l := by
  unfold catP
  rw [List.take_add_one, h, List.flatMap_append]
  simp
theorem catP_le {ss : List Src} {j k : Nat} (h : j ≤ k) : (catP ss j).length ≤ (catP ss k).length := by
  induction k with
  | zero => rw [show j = 0 by omega]; exact Nat.le_refl _
  | succ k ih =>
    rcases Nat.lt_or_ge k j with h1 | h1
    · rw [show j = k + 1 by omega]; exact Nat.le_refl _
    · refine Nat.le_trans (ih h1) ?_
      cases hs : ss[k]? with
      | none =>
        unfold catP
        rw [List.take_add_one, hs, List.flatMap_append]; simp
      | some s => rw [catP_succ hs, List.length_append]; omega
set_option maxRecDepth 100000 in
set_option maxHeartbeats 2000000 in
theorem concat_any (g m : Nat) (ss : List Src) (w : World) (hm : ss.length = m) (lm : m ≤ 1000) (ho : ∀ (k : Nat) (s : Src), ss[k]? = some s → s.Ok w) (hc : ∀ (k : Nat) (s : Src), ss[k]? = some s → w.cell? ⟨g, k, none⟩ = some (.slice s.A s.n s.c)) (hg : g < w.heap.size) (ln : (catP ss m).length ≤ 1048576) :
    Calls Try.prog 39 #[.slice (some ⟨g, 0, none⟩) m m] w (MadeP w (catP ss m)) := by
  have HG := hide (grow_nil (catP ss m).length w ln)
  have HO := hide ho
  have HC := hide hc
  have HS := hide hm
  clear ho hc hm
  go_enter Try.func39, Try.ntmps39
  go_wp2
  go_loopw [3, 11] (fun u i wr => ∃ k q : Nat, k ≤ m ∧ i = .int .i64 k ∧ u = .int .i64 q ∧ Hid (q = (catP ss k).length) ∧ Hid (wr = w)) (fun _ i _ => m - (intOf i).toNat)
  case atStart => exact ⟨0, 0, by omega, rfl, rfl, hide rfl, hide rfl⟩
  case round =>
    obtain ⟨k, q, hk, rfl, rfl, hq, hw⟩ := hrel
    have hw := hw.out.symm
    subst hw
    by_cases hlt : k < m
    · obtain ⟨s, hs⟩ : ∃ s, ss[k]? = some s := ⟨_, List.getElem?_eq_getElem (by rw [HS.out]; exact hlt)⟩
      have c0 := HC.out k s hs
      have hl := (HO.out k s hs).len
      have hle := catP_le (ss := ss) (show k + 1 ≤ m by omega)
      have HQ : Hid (q + s.n = (catP ss (k + 1)).length) := hide (by rw [catP_succ hs, List.length_append, hl, hq.out])
      rw [← HQ.out] at hle
      have hb : q + s.n ≤ 1048576 := Nat.le_trans hle ln
      clear hs hl hle
      go_wp2
      go_roundw
      case rel => exact ⟨k + 1, q + s.n, by omega, by go_num, by go_num, HQ, hide (by first | rfl | trivial)⟩
      case measure => simp [intOf]; omega
    · obtain rfl : k = m := by omega
      obtain rfl := hq.out
      go_wp2_with (go_at_call 48; (with_reducible refine HG.out.mono ?_); rintro e w1 ⟨v1, rfl, ho1, hb1⟩)
      have HO1 := hide ho1
      have HB1 := hide hb1
      clear ho1 hb1
      obtain ⟨i0, hi, hz0, hz1, hz2⟩ := attr_parts
      go_loopw [6, 27] (fun v i w2 => ∃ j : Nat, j ≤ k ∧ i = .int .i64 j ∧ Hid (Mine8 w.heap.size w2 v (catP ss j)) ∧ Hid (Below w.heap.size w w2)) (fun _ i _ => k - (intOf i).toNat)
      case atStart => exact ⟨0, by omega, rfl, HO1, HB1⟩
      case round =>
        obtain ⟨j, hj, rfl, HM, HB⟩ := hrel
        by_cases hlt : j < k
        · obtain ⟨s, hs⟩ : ∃ s, ss[j]? = some s := ⟨_, List.getElem?_eq_getElem (by rw [HS.out]; exact hlt)⟩
          have c0 := HC.out j s hs
          have d0 := (HB.out.cell (p := ⟨g, j, none⟩) hg).trans c0
          have OK := hide (HO.out j s hs)
          have hle := catP_le (ss := ss) (show j + 1 ≤ k by omega)
          rw [catP_succ hs, List.length_append, OK.out.len] at hle
          have E := hide (catP_succ hs)
          clear c0 hs
          have hsz := HB.out.size
          go_wp2_with (at_builtin; refine wpList_append_els rfl (.tmp 31) (.tmp 32) 45 rfl w.heap.size 26 i0 _ 64 under_attrs hi hz0 hz1 hz2 (by omega) rfl _ _ (atV (catP ss j)) rfl HM.out s.A s.n s.c (atV s.l) rfl (atV_all OK.out.a8) ((atV_len _).trans OK.out.len) OK.out.nil (OK.out.lies.below HB.out) (by omega) (by omega) hsz ?_; intro v3 w3 ho3 hb3)
          go_roundw
          case rel => exact ⟨j + 1, by omega, by go_num, hide (by unfold Mine8; rw [E.out, List.length_append, OK.out.len, atV_append]; exact ho3), hide (HB.out.grown hb3 hsz (fun k hk => (Mine8.lt HM.out k hk)))⟩
          case measure => simp [intOf]; omega
        · obtain rfl : j = k := by omega
          go_wp2
          go_ret
          exact ⟨_, rfl, HM.out, HB.out⟩
end Go.Proofs.Ytjkdccokiaejhaa
/- QuorumFew walked, of any program whose Prepared and Pre answer as chapter 17 says. Conditions: what is asked of the program's calls. -/
namespace Go.Proofs.Ytjkdccokiaejhaa
set_option maxRecDepth 100000
open Go.RowKit
/-- What is asked of the program's Pre. -/
def PreOk : Prop := ∀ (n : Nat) (first late : Bool) (own : List Int) (A : Option Addr) (m c : Nat) (zs : List (List Int)) (w : World), n ≤ 100 → own.length = 8 → zs.length = m → All 8 zs → Its 8 w A zs → m ≤ 1000 → m ≤ c → (A = none → c = 0) →
  Calls Try.prog 23 #[.int .i64 (n : Nat), .bool first, .agg (cA own), .slice A m c, .bool late] w fun e w' => e = .returned (.tuple #[.int .i64 (preL n first own zs late).1, .agg (cA (preL n first own zs late).2)]) ∧ Below w.heap.size w w'
theorem covers_ix {a b : List Int} (h : ∀ k, k < 7 → ix b k ≤ ix a k) : coversB a b = true := by
  unfold coversB
  rw [allTo_iff]
  exact fun k hk => decide_eq_true (h k hk)
theorem eight {x : List Int} (h : x.length = 8) : ∃ a b c d e f g i, x = [a, b, c, d, e, f, g, i] := by
  match x, h with
  | [a, b, c, d, e, f, g, i], _ => exact ⟨a, b, c, d, e, f, g, i, rfl⟩
theorem covers_cA {a1 a2 a3 a4 a5 a6 a7 e1 e2 e3 e4 e5 e6 e7 : Int} (h : coversB [e1, e2, e3, e4, e5, e6, e7] [a1, a2, a3, a4, a5, a6, a7] = true) (w : World) : Calls Try.prog 34 #[.agg #[.int .i64 e1, .int .i64 e2, .int .i64 e3, .int .i64 e4, .int .i64 e5, .int .i64 e6, .int .i64 e7], .agg (cA [a1, a2, a3, a4, a5, a6, a7])] w fun e w' => e = .returned (.bool true) ∧ Below w.heap.size w w' := by
  have := d_covers_any e1 e2 e3 e4 e5 e6 e7 a1 a2 a3 a4 a5 a6 a7 w
  rw [h] at this
  exact this
set_option maxHeartbeats 4000000 in
theorem few_walk {n o : Int} {A B : Option Addr} {m1 c1 m2 c2 : Nat} {l : List (Int × Cl)} {zs : List (List Int)} {a0 a1 a2 a3 a4 a5 a6 a7 : Int} (W : World) (hl : SaidsIn W A m1 c1 l) (hz : AttrsIn W B m2 c2 zs) (HPP : PrepOk) (HPE : PreOk) (HRU : RunsOk) :
    Calls Try.prog 10 #[.int .i64 n, .int .i64 o, .slice A m1 c1, .agg (cA [a0, a1, a2, a3, a4, a5, a6, a7]), .slice B m2 c2] W fun e w' => e = .returned (.bool true) ∧ Below W.heap.size W w' := by
  obtain ⟨k, hk, hF⟩ := fit_any n
  have HF := hide hF
  have hk7 : k ≤ 7 := by omega
  have hk3 : 3 ≤ k := by omega
  have HRR := hide (fun w => HRU w)
  have hl1 : m1 ≤ c1 := hl.le
  have hl2 : m2 ≤ c2 := hz.le
  have hl3 := hl.room
  have hl4 := hz.room
  have HP1 : Hid (∀ (m : Nat) (w : World), m ≤ m1 → m < k / 2 + 1 → Below W.heap.size W w → Calls Try.prog 28 #[.int .i64 (k : Nat), .int .i64 o, .slice A m c1] w fun e w' => e = .returned (.tuple #[.int .i64 0, .agg #[.int .i64 0, .int .i64 0, .int .i64 0, .string ⟨#[]⟩, .string ⟨#[]⟩, .string ⟨#[]⟩, .string ⟨#[]⟩], .agg #[.int .i64 0, .int .i64 0, .int .i64 0, .int .i64 0, .int .i64 0, .int .i64 0, .int .i64 0, .int .i64 0]]) ∧ Below w.heap.size w w') := hide (by
    intro m w h1 h2 hb
    have hlen : (l.take m).length = m := by rw [List.length_take, hl.len]; omega
    have h := HPP k o A m c1 (l.take m) w (by omega) (by omega) hlen ⟨by rw [List.map_take]; exact (hl.sds.below hb).e.take m, fun e he => hl.sds.a8 e (List.mem_of_mem_take he)⟩ (by omega) (by omega) hl.nil
    rw [prep_few (by omega)] at h
    exact h)
  have HP2 : Hid (∀ (m : Nat) (w : World), m ≤ m2 → m ≤ 6 → Below W.heap.size W w → Calls Try.prog 23 #[.int .i64 (k : Nat), .bool false, .agg (cA [a0, a1, a2, a3, a4, a5, a6, a7]), .slice B m c2, .bool true] w fun e w' => (∃ x e0 e1 e2 e3 e4 e5 e6 e7, e = .returned (.tuple #[.int .i64 x, .agg #[.int .i64 e0, .int .i64 e1, .int .i64 e2, .int .i64 e3, .int .i64 e4, .int .i64 e5, .int .i64 e6, .int .i64 e7]]) ∧ (m < k / 2 → x = 0 ∧ e0 = 0 ∧ e1 = 0 ∧ e2 = 0 ∧ e3 = 0 ∧ e4 = 0 ∧ e5 = 0 ∧ e6 = 0 ∧ e7 = 0) ∧ (k / 2 ≤ m → x = 2 ∧ a0 ≤ e0 ∧ coversB [e1, e2, e3, e4, e5, e6, e7] [a1, a2, a3, a4, a5, a6, a7] = true)) ∧ Below w.heap.size w w') := hide (by
    intro m w h1 h2 hb
    have hlen : (zs.take m).length = m := by rw [List.length_take, hz.len]; omega
    have h := HPE k false true [a0, a1, a2, a3, a4, a5, a6, a7] B m c2 (zs.take m) w (by omega) rfl hlen (fun x hx => (hz.ok x (List.mem_of_mem_take hx)).len) ((hz.lies.below hb).take m) (by omega) (by omega) hz.nil
    refine h.mono ?_
    rintro e w' ⟨rfl, hb'⟩
    refine ⟨?_, hb'⟩
    rcases Nat.lt_or_ge m (k / 2) with hm | hm
    · rw [pre_few (by omega)]
      exact ⟨0, 0, 0, 0, 0, 0, 0, 0, 0, rfl, fun _ => ⟨rfl, rfl, rfl, rfl, rfl, rfl, rfl, rfl, rfl⟩, fun h => absurd h (by omega)⟩
    · rw [pre_more (by omega)]
      obtain ⟨e0, e1, e2, e3, e4, e5, e6, e7, he⟩ := eight (x := allA [a0, a1, a2, a3, a4, a5, a6, a7] (zs.take m)) (by rw [allA_len]; rfl)
      have hg := fun i (hi : i < 8) => allA_ge hi (zs.take m) [a0, a1, a2, a3, a4, a5, a6, a7]
      rw [he] at hg ⊢
      refine ⟨2, e0, e1, e2, e3, e4, e5, e6, e7, rfl, fun h => absurd h (by omega), fun _ => ⟨rfl, hg 0 (by omega), covers_ix fun k hk => ?_⟩⟩
      exact hg (k + 1) (by omega))
  clear hF hk HPP HPE HRU hl hz
  go_enter Try.func10, Try.ntmps10
  have HB := hide (kept_alloc (kept_refl W) (.cells (cA [a0, a1, a2, a3, a4, a5, a6, a7]) 26))
  have HR := hide (Row.new W 26 (cA [a0, a1, a2, a3, a4, a5, a6, a7]))
  go_wp2_with (first
    | (go_at_call 24; (with_reducible refine (HF.out _).mono ?_); rintro e w2 ⟨rfl, hb⟩; replace HB := hide (kept_trans HB.out hb); replace HR := hide (HR.out.below hb HR.out.lt); clear hb)
    | (go_at_call 28; go_loud ((with_reducible refine (HP1.out _ _ ?pa ?pb HB.out).mono ?_); (case pa => omega); (case pb => omega); rintro e w3 ⟨rfl, hb⟩; replace HB := hide (kept_trans HB.out hb); replace HR := hide (HR.out.below hb HR.out.lt); clear hb))
    | (go_at_call 23; go_loud ((with_reducible refine (HP2.out _ _ ?pa ?pb (kept_alloc (kept_alloc HB.out _) _)).mono ?_); (case pa => omega); (case pb => omega); rintro e w3 ⟨⟨x, e0, e1, e2, e3, e4, e5, e6, e7, rfl, hlo, hhi⟩, hb⟩; have HHI := hide hhi; have hE := fun w => eql_attr e0 e1 e2 e3 e4 e5 e6 e7 0 0 0 0 0 0 0 0 w; replace HB := hide (kept_trans (kept_alloc (kept_alloc HB.out _) _) hb); replace HR := hide (((HR.out.alloc _).alloc _).below hb ((HR.out.alloc _).alloc _).lt); clear hb))
    | (go_at_call 34; go_loud ((with_reducible refine (covers_cA (HHI.out (by omega)).2.2 _).mono ?_); rintro e w5 ⟨rfl, hb⟩; have hA0 : w5.cell? ⟨_, 0, none⟩ = some (.int .i64 e0) := (Row.below (Row.new _ 26 #[.int .i64 e0, .int .i64 e1, .int .i64 e2, .int .i64 e3, .int .i64 e4, .int .i64 e5, .int .i64 e6, .int .i64 e7]) hb (Row.lt (Row.new _ 26 #[.int .i64 e0, .int .i64 e1, .int .i64 e2, .int .i64 e3, .int .i64 e4, .int .i64 e5, .int .i64 e6, .int .i64 e7]))).cell 0; replace HB := hide (kept_trans (kept_alloc HB.out _) hb); replace HR := hide ((HR.out.alloc _).below hb (HR.out.alloc _).lt); clear hb; have hO0 : w5.cell? ⟨W.heap.size, 0, none⟩ = some (.int .i64 a0) := HR.out.cell 0))
    | (go_at_call 3; (with_reducible refine (HRR.out _).mono ?_); rintro e w3 ⟨rfl, hb⟩)
    | ((with_reducible refine wpList_load_at rfl ?_ ?_ ((HR.out.alloc _).alloc _).at8 ?_); rfl; rfl)
    | ((with_reducible refine wpList_load_de (y := [a1, a2, a3, a4, a5, a6, a7]) rfl ?_ ?_ ((HR.out.alloc _).mid (A := [.int .i64 a0]) (ys := cellsR [a1, a2, a3, a4, a5, a6, a7]) (B := []) rfl rfl) ?_); rfl; rfl)
    )
  all_goals first
    | (go_ret; exact ⟨rfl, kept_trans HB.out hb⟩)
    | (go_ret; exact ⟨rfl, kept_trans (kept_alloc HB.out _) hb⟩)
    | (exfalso; obtain ⟨_, q0, q1, q2, q3, q4, q5, q6, q7⟩ := hlo (by omega); subst q0 q1 q2 q3 q4 q5 q6 q7; contradiction)
    | trace_state
end Go.Proofs.Ytjkdccokiaejhaa
