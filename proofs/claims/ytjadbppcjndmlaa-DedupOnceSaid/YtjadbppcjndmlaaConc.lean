/- What slices.Grow of nothing, and slices.Concat of slices of pairs, come to. Conditions: the slices lie in memory, their lengths have room. -/
import Derived.Test.YtjadbppcjndmlaaFind
import Derived.Lib.AppendZerosOnto
namespace Go.Proofs.Ytjadbppcjndmlaa
open Go.RowKit
/-- A slice value that is the list l. -/
def Pin (w : World) (v : Value) (l : List Pr) : Prop := ∃ A c, v = .slice A l.length c ∧ (A = none → c = 0) ∧ l.length ≤ c ∧ c ≤ 9223372036854775807 ∧ Prs w A l
/-- A row of these pairs of the call's own. -/
def Mine (base : Nat) (w : World) (v : Value) (l : List Pr) : Prop := w.ownsRow base 49 3 v l.length (cellsV (prV l))
theorem Pin.below {w w' : World} {v : Value} {l : List Pr} (h : Pin w v l) (hb : Below w.heap.size w w') : Pin w' v l := by
  obtain ⟨A, c, e, h1, h2, h3, h4⟩ := h
  exact ⟨A, c, e, h1, h2, h3, h4.below hb⟩
theorem Pin.nil_ (w : World) : Pin w (.slice none 0 0) [] := ⟨none, 0, rfl, fun _ => rfl, Nat.le_refl _, by omega, Prs.nil_⟩
theorem Mine.nil_ (base : Nat) (w : World) : Mine base w (.slice none 0 0) [] := ⟨rfl, .inl ⟨rfl, rfl⟩⟩
theorem Mine.pin {base : Nat} {w : World} {v : Value} {l : List Pr} (h : Mine base w v l) : Pin w v l := by
  obtain ⟨A, c, rfl, h1, h2, h3, _⟩ := own_form h
  refine ⟨A, c, rfl, h1, h2, ?_, (els_own h (prV_all _) (by omega)).1⟩
  unfold maxLen at h3; omega
theorem Mine.lt {base : Nat} {w : World} {v : Value} {l : List Pr} (h : Mine base w v l) : ∀ k, v.ownBlock = some k → base ≤ k := fun k hk => by
  unfold Mine at h
  exact (h.lt k hk).1
/-- A made slice and something else are answered. -/
def Ans (w : World) (l : List Pr) (u : Value) (e : Ending) (w' : World) : Prop := ∃ v, e = .returned (.tuple #[v, u]) ∧ Mine w.heap.size w' v l ∧ Below w.heap.size w w'
def MadeP (w : World) (l : List Pr) (e : Ending) (w' : World) : Prop := ∃ v, e = .returned v ∧ Mine w.heap.size w' v l ∧ Below w.heap.size w w'
theorem pair_parts : ∃ i, Try.prog.info? 49 = some i ∧ i.zero = some (.agg #[.string ⟨#[]⟩, .string ⟨#[]⟩, .int .i64 0]) ∧ i.size = 3 ∧ i.bytes = 40 := 
  info_parts (show (Try.prog.info? 49).map (fun i => (i.zero, i.size, i.bytes)) = some (some (.agg #[.string ⟨#[]⟩, .string ⟨#[]⟩, .int .i64 0]), 3, 40) by kernel_rfl)
theorem under_pairs : Try.prog.underlying 23 = some (.slice 49) := by kernel_rfl
set_option maxRecDepth 100000 in
set_option maxHeartbeats 2000000 in
theorem grow_nil (n : Nat) (w : World) (ln : n ≤ 3518437208883) :
    Calls Try.prog 25 #[.slice none 0 0, .int .i64 n] w (MadeP w []) := by
  rcases Nat.eq_zero_or_pos n with h0 | h0
  · subst h0
    go_enter Try.func25, Try.ntmps25
    go_wp2
    go_ret
    exact ⟨_, rfl, ⟨rfl, .inl ⟨rfl, rfl⟩⟩, Below.refl _ _⟩
  · obtain ⟨i0, hi, hz0, hz1, hz2⟩ := pair_parts
    have hrz := fun ty => Lib.run_append_nil_zeros w 23 3 ty 49 i0 _ .i64 .i64 under_pairs Try.underlying3 hi hz0 n h0 (by omega) (by omega) (by rw [hz2]; omega)
    have hcap := grownCap_le_maxLen w n 0 49 (by unfold maxLen; omega)
    have hge := grownCap_ge w n 0 49
    have hlen : ∀ k, (Builtin.zeroCells (Value.agg #[.string ⟨#[]⟩, .string ⟨#[]⟩, .int .i64 0]).cells k).size = k * 3 := by intro k; simp [Builtin.zeroCells, Value.cells]
    generalize grownCap w n 0 49 = G at *
    have hZ : (Builtin.zeroCells (Value.agg #[.string ⟨#[]⟩, .string ⟨#[]⟩, .int .i64 0]).cells n ++ Builtin.zeroCells (Value.agg #[.string ⟨#[]⟩, .string ⟨#[]⟩, .int .i64 0]).cells (G - n)).size = G * 3 := by rw [Array.size_append, hlen, hlen]; omega
    generalize Builtin.zeroCells (Value.agg #[.string ⟨#[]⟩, .string ⟨#[]⟩, .int .i64 0]).cells n ++ Builtin.zeroCells (Value.agg #[.string ⟨#[]⟩, .string ⟨#[]⟩, .int .i64 0]).cells (G - n) = Z at *
    clear hi hz0 hz1 hz2
    have hcap' := hcap
    unfold maxLen at hcap'
    go_enter Try.func25, Try.ntmps25
    go_wp2_with (at_builtin; refine Lib.wpList_append_run _ rfl _ _ _ _ rfl _ _ rfl rfl _ _ (hrz _) ?_)
    go_ret
    refine ⟨_, rfl, ⟨rfl, .inr ⟨w.heap.size, G, Z, rfl, Nat.le_refl _, ?_, by simp, hcap, by omega, rfl⟩⟩, (Below.refl _ _).drew.alloc (Nat.le_refl _) _⟩
    show (w.drew.heap.push _)[w.drew.heap.size]? = _
    rw [Array.getElem?_push, if_pos rfl]
/-- A slice that Concat is given. -/
structure Src where
  A : Option Addr
  n : Nat
  c : Nat
  l : List Pr
structure Src.Ok (w : World) (s : Src) : Prop where
  len : s.l.length = s.n
  nil : s.A = none → s.c = 0
  lies : Prs w s.A s.l
def catP (ss : List Src) (k : Nat) : List Pr := (ss.take k).flatMap Src.l
theorem catP_succ {ss : List Src} {k : Nat} {s : Src} (h : ss[k]? = some s) : catP ss (k + 1) = catP ss k ++ s.l := by
  unfold catP
  rw [List.take_add_one, h, List.flatMap_append]
  simp
theorem catP_le {ss : List Src} {j k : Nat} (h : j ≤ k) : (catP ss j).length ≤ (catP ss k).length := by
  induction k with
  | zero => rw [show j = 0 by omega]; exact Nat.le_refl _
  | succ k ih =>
    rcases Nat.lt_or_ge k j with h1 | h1
    · rw [show j = k + 1 by omega]; exact Nat.le_refl _
    · refine Nat.le_trans (ih h1) ?_
      cases hs : ss[k]? with
      | none =>
        unfold catP
        rw [List.take_add_one, hs, List.flatMap_append]; simp
      | some s => rw [catP_succ hs, List.length_append]; omega
set_option maxRecDepth 100000 in
set_option maxHeartbeats 2000000 in
theorem concat_any (g m : Nat) (ss : List Src) (w : World) (hm : ss.length = m) (lm : m ≤ 1000) (ho : ∀ (k : Nat) (s : Src), ss[k]? = some s → s.Ok w) (hc : ∀ (k : Nat) (s : Src), ss[k]? = some s → w.cell? ⟨g, k, none⟩ = some (.slice s.A s.n s.c)) (hg : g < w.heap.size) (ln : (catP ss m).length ≤ 3518437208883) :
    Calls Try.prog 22 #[.slice (some ⟨g, 0, none⟩) m m] w (MadeP w (catP ss m)) := by
  have HG := hide (grow_nil (catP ss m).length w ln)
  have HO := hide ho
  have HC := hide hc
  have HS := hide hm
  clear ho hc hm
  go_enter Try.func22, Try.ntmps22
  go_wp2
  go_loopw [3, 11] (fun u i wr => ∃ k q : Nat, k ≤ m ∧ i = .int .i64 k ∧ u = .int .i64 q ∧ Hid (q = (catP ss k).length) ∧ Hid (wr = w)) (fun _ i _ => m - (intOf i).toNat)
  case atStart => exact ⟨0, 0, by omega, rfl, rfl, hide rfl, hide rfl⟩
  case round =>
    obtain ⟨k, q, hk, rfl, rfl, hq, hw⟩ := hrel
    have hw := hw.out.symm
    subst hw
    by_cases hlt : k < m
    · obtain ⟨s, hs⟩ : ∃ s, ss[k]? = some s := ⟨_, List.getElem?_eq_getElem (by rw [HS.out]; exact hlt)⟩
      have c0 := HC.out k s hs
      have hl := (HO.out k s hs).len
      have hle := catP_le (ss := ss) (show k + 1 ≤ m by omega)
      have HQ : Hid (q + s.n = (catP ss (k + 1)).length) := hide (by rw [catP_succ hs, List.length_append, hl, hq.out])
      rw [← HQ.out] at hle
      have hb : q + s.n ≤ 3518437208883 := Nat.le_trans hle ln
      clear hs hl hle
      go_wp2
      go_roundw
      case rel => exact ⟨k + 1, q + s.n, by omega, by go_num, by go_num, HQ, hide (by first | rfl | trivial)⟩
      case measure => simp [intOf]; omega
    · obtain rfl : k = m := by omega
      obtain rfl := hq.out
      go_wp2_with (go_at_call 25; (with_reducible refine HG.out.mono ?_); rintro e w1 ⟨v1, rfl, ho1, hb1⟩)
      have HO1 := hide ho1
      have HB1 := hide hb1
      clear ho1 hb1
      obtain ⟨i0, hi, hz0, hz1, hz2⟩ := pair_parts
      go_loopw [6, 27] (fun v i w2 => ∃ j : Nat, j ≤ k ∧ i = .int .i64 j ∧ Hid (Mine w.heap.size w2 v (catP ss j)) ∧ Hid (Below w.heap.size w w2)) (fun _ i _ => k - (intOf i).toNat)
      case atStart => exact ⟨0, by omega, rfl, HO1, HB1⟩
      case round =>
        obtain ⟨j, hj, rfl, HM, HB⟩ := hrel
        by_cases hlt : j < k
        · obtain ⟨s, hs⟩ : ∃ s, ss[j]? = some s := ⟨_, List.getElem?_eq_getElem (by rw [HS.out]; exact hlt)⟩
          have c0 := HC.out j s hs
          have d0 := (HB.out.cell (p := ⟨g, j, none⟩) hg).trans c0
          have OK := hide (HO.out j s hs)
          have hle := catP_le (ss := ss) (show j + 1 ≤ k by omega)
          rw [catP_succ hs, List.length_append, OK.out.len] at hle
          have E := hide (catP_succ hs)
          clear c0 hs
          have hsz := HB.out.size
          go_wp2_with (at_builtin; refine wpList_append_els rfl (.tmp 31) (.tmp 32) 23 rfl w.heap.size 49 i0 _ 40 under_pairs hi hz0 hz1 hz2 (by omega) rfl _ _ (prV (catP ss j)) rfl HM.out s.A s.n s.c (prV s.l) rfl (prV_all _) ((prV_len _).trans OK.out.len) OK.out.nil (OK.out.lies.below HB.out) (by omega) (by omega) hsz ?_; intro v3 w3 ho3 hb3)
          go_roundw
          case rel => exact ⟨j + 1, by omega, by go_num, hide (by unfold Mine; rw [E.out, List.length_append, OK.out.len, prV_append]; exact ho3), hide (HB.out.grown hb3 hsz (fun k hk => (Mine.lt HM.out k hk)))⟩
          case measure => simp [intOf]; omega
        · obtain rfl : j = k := by omega
          go_wp2
          go_ret
          exact ⟨_, rfl, HM.out, HB.out⟩
end Go.Proofs.Ytjadbppcjndmlaa
