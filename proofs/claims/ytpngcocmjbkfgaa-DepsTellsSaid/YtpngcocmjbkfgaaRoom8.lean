/- Roomy and Intact of attributes. Conditions: the slices lie in memory, their lengths have room. -/
import Derived.Test.YtpngcocmjbkfgaaCopy8
import Derived.Test.YtpngcocmjbkfgaaSame8
import Derived.Test.YtpngcocmjbkfgaaGetc
import Derived.OwnWalk
namespace Go.Proofs.Ytpngcocmjbkfgaa
open Go.RowKit
/-- The list, then the mark so often that it is q long. -/
def markTo (l : List (List Int)) (mk : List Int) (q : Nat) : List (List Int) := l ++ List.replicate (q - l.length) mk
theorem mark_here (l : List (List Int)) (mk : List Int) : markTo l mk l.length = l := by unfold markTo; rw [Nat.sub_self, List.replicate_zero, List.append_nil]
theorem mark_len {l : List (List Int)} (mk : List Int) {q : Nat} (h : l.length ≤ q) : (markTo l mk q).length = q := by unfold markTo; rw [List.length_append, List.length_replicate]; omega
theorem mark_next {l : List (List Int)} (mk : List Int) {q : Nat} (h : l.length ≤ q) : markTo l mk (q + 1) = markTo l mk q ++ [mk] := by
  unfold markTo
  rw [show q + 1 - l.length = (q - l.length) + 1 by omega, List.replicate_succ', List.append_assoc]
theorem mark_all {l : List (List Int)} {mk : List Int} (h : All 8 l) (hm : mk.length = 8) (q : Nat) : All 8 (markTo l mk q) := h.append (All.rep _ hm)
/-- While it marks: the mark, the row. -/
structure Rm (w wr : World) (l : List (List Int)) (mk : List Int) (q : Nat) : Prop where
  low : Below w.heap.size w wr
  m : Row wr w.heap.size 25 (cA mk)
  f : ∃ cs, Row wr (w.heap.size + 1) 25 cs ∧ cs.size = (l.length + 80) * 8 ∧ ∀ k x, (markTo l mk q)[k]? = some x → ∀ i, i < 8 → cs[k * 8 + i]? = some (.int .i64 (ix x i))
theorem Rm.its {w wr : World} {l : List (List Int)} {mk : List Int} {q : Nat} (h : Rm w wr l mk q) : Its 8 wr (some ⟨w.heap.size + 1, 0, none⟩) (markTo l mk q) := fun _ => by
  obtain ⟨cs, hr, _, hc⟩ := h.f
  exact ⟨w.heap.size + 1, 0, rfl, hr.lt, fun k x hk i hi => by rw [hr.cell, Nat.zero_add]; exact hc k x hk i hi⟩
/-- What a walk needs of it. -/
theorem Rm.cells {w wr : World} {l : List (List Int)} {mk : List Int} {q : Nat} (h : Rm w wr l mk q) (hq : q < l.length + 80) : ∀ i, i < 8 → ∃ v, wr.cell? ⟨w.heap.size + 1, q * 8 + i, none⟩ = some v ∧ wr.frozen? ⟨w.heap.size + 1, q * 8 + i, none⟩ = false := fun i hi => by
  obtain ⟨cs, hr, hs, _⟩ := h.f
  exact ⟨cs[q * 8 + i]'(by omega), by rw [hr.cell]; exact Array.getElem?_eq_getElem _, hr.free _⟩
theorem Rm.put {w wr : World} {l : List (List Int)} {m0 m1 m2 m3 m4 m5 m6 m7 : Int} {q : Nat} (h : Rm w wr l [m0, m1, m2, m3, m4, m5, m6, m7] q) (h0 : l.length ≤ q) (hq : q < l.length + 80) :
    Rm w ((((((((wr.setCell ⟨w.heap.size + 1, q * 8, none⟩ (.int .i64 m0)).setCell ⟨w.heap.size + 1, q * 8 + 1, none⟩ (.int .i64 m1)).setCell ⟨w.heap.size + 1, q * 8 + 2, none⟩ (.int .i64 m2)).setCell ⟨w.heap.size + 1, q * 8 + 3, none⟩ (.int .i64 m3)).setCell ⟨w.heap.size + 1, q * 8 + 4, none⟩ (.int .i64 m4)).setCell ⟨w.heap.size + 1, q * 8 + 5, none⟩ (.int .i64 m5)).setCell ⟨w.heap.size + 1, q * 8 + 6, none⟩ (.int .i64 m6)).setCell ⟨w.heap.size + 1, q * 8 + 7, none⟩ (.int .i64 m7)) l [m0, m1, m2, m3, m4, m5, m6, m7] (q + 1) := by
  obtain ⟨cs, hr, hs, hc⟩ := h.f
  refine ⟨below_put8 h.low (Nat.le_succ _) _ _ _ _ _ _ _ _ _, ?_, _, hr.put8 _ _ _ _ _ _ _ _ _, by rw [size_put8, hs], fun k x hk i hi => ?_⟩
  · have hb := below_put8 (Below.refl (w.heap.size + 1) wr) (Nat.le_refl _) (q * 8) (.int .i64 m0) (.int .i64 m1) (.int .i64 m2) (.int .i64 m3) (.int .i64 m4) (.int .i64 m5) (.int .i64 m6) (.int .i64 m7)
    exact (hb.block _ (Nat.lt_succ_self _)).trans h.m
  · rw [mark_next _ h0] at hk
    by_cases hkq : k < q
    · rw [put8_other _ (by omega)]
      rw [List.getElem?_append_left (by rw [mark_len _ h0]; exact hkq)] at hk
      exact hc k x hk i hi
    · have hl : k < q + 1 := by
        rcases Nat.lt_or_ge k (q + 1) with h1 | h1
        · exact h1
        · rw [List.getElem?_eq_none (by rw [List.length_append, mark_len _ h0]; exact h1)] at hk; cases hk
      obtain rfl : k = q := by omega
      rw [List.getElem?_append_right (by rw [mark_len _ h0]; exact Nat.le_refl _), mark_len _ h0, Nat.sub_self] at hk
      have hx : [m0, m1, m2, m3, m4, m5, m6, m7] = x := by simpa using hk
      subst hx
      rw [put8_in _ (by rw [hs]; omega) hi]
      match i, hi with
      | 0, _ => rfl
      | 1, _ => rfl
      | 2, _ => rfl
      | 3, _ => rfl
      | 4, _ => rfl
      | 5, _ => rfl
      | 6, _ => rfl
      | 7, _ => rfl
set_option maxRecDepth 100000 in
set_option maxHeartbeats 4000000 in
theorem roomy8_any (A : Option Addr) (n c : Nat) (l : List (List Int)) (m0 m1 m2 m3 m4 m5 m6 m7 : Int) (w : World) (hn : l.length = n) (ha : All 8 l) (hl : Its 8 w A l) (ln : n ≤ 1000) :
    Calls Try.prog 16 #[.slice A n c, .agg #[.int .i64 m0, .int .i64 m1, .int .i64 m2, .int .i64 m3, .int .i64 m4, .int .i64 m5, .int .i64 m6, .int .i64 m7]] w fun e w' =>
      e = .returned (.slice (some ⟨w.heap.size + 1, 0, none⟩) (n + 80) (n + 80)) ∧ Its 8 w' (some ⟨w.heap.size + 1, 0, none⟩) (l ++ List.replicate 80 [m0, m1, m2, m3, m4, m5, m6, m7]) ∧ Below w.heap.size w w' := by
  subst hn
  obtain ⟨i0, hi, hz0, hz1, hz2⟩ := info_parts (show (Try.prog.info? 25).map (fun i => (i.zero, i.size, i.bytes)) = some (some (.agg #[.int .i64 0, .int .i64 0, .int .i64 0, .int .i64 0, .int .i64 0, .int .i64 0, .int .i64 0, .int .i64 0]), 8, 64) by kernel_rfl)
  have hsz := hide (show (Try.prog.info? 25).map (·.size) = some 8 by rw [hi]; exact congrArg some hz1)
  have hu : Try.prog.underlying 37 = some (.slice 25) := by kernel_rfl
  have HM := hide (Row.new w 25 (cA [m0, m1, m2, m3, m4, m5, m6, m7]))
  have HL := hide hl
  have HA := hide ha
  clear hl ha
  go_enter Try.func16, Try.ntmps16
  go_wp2_with (at_make; refine wpList_make_full _ rfl _ _ 37 rfl (w.heap.size + 1) 25 i0 _ 8 hu hi hz0 hz1 _ _ _ _ (l.length + 80) rfl rfl (by omega) (by omega) ?b2 ?b3 (by simp) ?_)
  case b2 => rw [hz2]; omega
  case b3 => unfold maxLen; omega
  intro w0 hown0 hgrow0
  obtain ⟨cur, hcur, hcsz⟩ : ∃ cur, w0.heap[w.heap.size + 1]? = some (.cells cur 25 (0, 0)) ∧ cur.size = (l.length + 80) * 8 := by
    rcases hown0.2 with ⟨h0, _⟩ | ⟨g', cap, cur, hv, hb, hh, _, hm, hs, ht⟩
    · cases h0
    · injection hv with h1 _ h3
      injection h1 with h1
      injection h1 with h1
      subst h1 h3
      exact ⟨cur, hh, hs⟩
  have hb0 : Below w.heap.size w w0 := kept_trans (kept_alloc (kept_refl w) _) (below_grown hgrow0)
  have HL0 := hide (HL.out.below hb0)
  have HM0 := hide (HM.out.grown hgrow0 (by simp))
  have HB0 := hide hb0
  clear HL HM hown0 hgrow0 hb0 hi hz0 hz1 hz2
  have hcopy := run_copy_its (P := Try.prog) w0 37 37 3 25 (w.heap.size + 1) (l.length + 80) (l.length + 80) A l.length c 8 l hu hsz.out cur _ hcur rfl (by omega) (by omega) HA.out HL0.out
  obtain ⟨w1, hw1⟩ : ∃ w1, w1 = w0.setRow (w.heap.size + 1) (cellsL l ++ cur.toList.drop (l.length * 8)).toArray := ⟨_, rfl⟩
  rw [← hw1] at hcopy
  have ST : Hid (Rm w w1 l [m0, m1, m2, m3, m4, m5, m6, m7] l.length) := by
    subst hw1
    refine ⟨HB0.out.trans ⟨rfl, rfl, rfl, by simp [World.setRow], fun k hk => setRow_other w0 _ k _ (by omega)⟩, (setRow_other w0 _ _ _ (by omega)).trans HM0.out, _, setRow_heap w0 _ cur _ _ _ hcur, ?_, fun k x hk i hi => ?_⟩
    · simp [length_cellsL HA.out, hcsz]; omega
    · rw [mark_here] at hk
      have h1 := cellsL_of HA.out hk i hi
      have h2 : k * 8 + i < (cellsL l).length := by
        rcases Nat.lt_or_ge (k * 8 + i) (cellsL l).length with h3 | h3
        · exact h3
        · rw [List.getElem?_eq_none h3] at h1; cases h1
      rw [List.getElem?_toArray, List.getElem?_append_left h2]
      exact h1
  clear hw1 hcur hcsz HB0 HM0 HL0 HA hu hsz
  go_wp2
  go_loopw [6] (fun i wr => ∃ q : Nat, l.length ≤ q ∧ q ≤ l.length + 80 ∧ i = .int .i64 q ∧ Hid (Rm w wr l [m0, m1, m2, m3, m4, m5, m6, m7] q)) (fun i _ => l.length + 80 - (intOf i).toNat)
  case atStart => exact ⟨l.length, by omega, by omega, rfl, ST⟩
  case round =>
    clear ST
    obtain ⟨q, hq0, hq1, rfl, J⟩ := hrel
    by_cases hlt : q < l.length + 80
    · have hlt' : (q : Int) < (l.length : Int) + 80 := by omega
      obtain ⟨f0, f1, f2, f3, f4, f5, f6, f7⟩ := eight_lit8 J.out.m
      obtain ⟨v0, c0, g0⟩ := J.out.cells hlt 0 (by omega)
      obtain ⟨v1, c1, g1⟩ := J.out.cells hlt 1 (by omega)
      obtain ⟨v2, c2, g2⟩ := J.out.cells hlt 2 (by omega)
      obtain ⟨v3, c3, g3⟩ := J.out.cells hlt 3 (by omega)
      obtain ⟨v4, c4, g4⟩ := J.out.cells hlt 4 (by omega)
      obtain ⟨v5, c5, g5⟩ := J.out.cells hlt 5 (by omega)
      obtain ⟨v6, c6, g6⟩ := J.out.cells hlt 6 (by omega)
      obtain ⟨v7, c7, g7⟩ := J.out.cells hlt 7 (by omega)
      replace c0 : wr.cell? ⟨w.heap.size + 1, q * 8, none⟩ = some v0 := c0
      replace g0 : wr.frozen? ⟨w.heap.size + 1, q * 8, none⟩ = false := g0
      have J1 := hide (J.out.put hq0 hlt)
      clear J
      go_wp2
      go_roundw
      case rel => exact ⟨q + 1, by omega, by omega, by go_num, J1⟩
      case measure => simp [intOf]; omega
    · obtain rfl : q = l.length + 80 := by omega
      go_wp2
      go_ret
      have h := J.out.its
      unfold markTo at h
      rw [show l.length + 80 - l.length = 80 by omega] at h
      exact ⟨rfl, h, J.out.low⟩
end Go.Proofs.Ytpngcocmjbkfgaa
