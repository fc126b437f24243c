/- Roomy and Intact of lists of pairs. Conditions: the slices lie in memory, their lengths have room. -/
import Derived.Test.YtmcemijipplkgaaSa
import Derived.Test.YtmcemijipplkgaaKv
import Derived.OwnWalk
namespace Go.Proofs.Ytmcemijipplkgaa
open Go.RowKit
/-- The list, then the mark so often that it is q long. -/
def markTo (l : List Pr) (mk : Pr) (q : Nat) : List Pr := l ++ List.replicate (q - l.length) mk
theorem mark_here (l : List Pr) (mk : Pr) : markTo l mk l.length = l := by unfold markTo; rw [Nat.sub_self, List.replicate_zero, List.append_nil]
theorem mark_len {l : List Pr} (mk : Pr) {q : Nat} (h : l.length ≤ q) : (markTo l mk q).length = q := by unfold markTo; rw [List.length_append, List.length_replicate]; omega
theorem mark_next {l : List Pr} (mk : Pr) {q : Nat} (h : l.length ≤ q) : markTo l mk (q + 1) = markTo l mk q ++ [mk] := by
  unfold markTo
  rw [show q + 1 - l.length = (q - l.length) + 1 by omega, List.replicate_succ', List.append_assoc]
/-- Eighty marks behind a list. -/
def roomL (l : List Pr) (mk : Pr) : List Pr := l ++ List.replicate 80 mk
theorem room_mark (l : List Pr) (mk : Pr) : markTo l mk (l.length + 80) = roomL l mk := by unfold markTo roomL; rw [show l.length + 80 - l.length = 80 by omega]
theorem room_len (l : List Pr) (mk : Pr) : (roomL l mk).length = l.length + 80 := by unfold roomL; simp
theorem room_take (l : List Pr) (mk : Pr) : (roomL l mk).take l.length = l := by unfold roomL; exact List.take_left
theorem room_at {l : List Pr} {mk : Pr} {k : Nat} (h1 : l.length ≤ k) (h2 : k < l.length + 80) : (roomL l mk)[k]? = some mk := by
  unfold roomL
  rw [List.getElem?_append_right h1, List.getElem?_replicate, if_pos (by omega)]
def putA (cs : Array Value) (p : Nat) (v0 v1 v2 : Value) : Array Value := ((cs.setIfInBounds p v0).setIfInBounds (p + 1) v1).setIfInBounds (p + 2) v2
theorem size_putA (cs : Array Value) (p : Nat) (v0 v1 v2 : Value) : (putA cs p v0 v1 v2).size = cs.size := by simp [putA]
theorem putA_other (cs : Array Value) {p q : Nat} (h : q < p ∨ p + 3 ≤ q) (v0 v1 v2 : Value) : (putA cs p v0 v1 v2)[q]? = cs[q]? := by
  unfold putA
  simp only [Array.getElem?_setIfInBounds]
  rw [if_neg (by omega), if_neg (by omega), if_neg (by omega)]
theorem putA_in (cs : Array Value) {p i : Nat} (h : p + 3 ≤ cs.size) (hi : i < 3) (v0 v1 v2 : Value) : (putA cs p v0 v1 v2)[p + i]? = [v0, v1, v2][i]? := by
  unfold putA
  simp only [Array.getElem?_setIfInBounds, Array.size_setIfInBounds]
  match i, hi with
  | 0, _ => simp; omega
  | 1, _ => simp; omega
  | 2, _ => simp; omega
/-- While it marks: the mark, the row. -/
structure Rm (w wr : World) (l : List Pr) (mk : Pr) (q : Nat) : Prop where
  low : Below w.heap.size w wr
  m : Row wr w.heap.size 29 #[.string mk.k, .string mk.v, .int .i64 mk.n]
  f : ∃ cs, Row wr (w.heap.size + 1) 29 cs ∧ cs.size = (l.length + 80) * 3 ∧ ∀ k x, (prV (markTo l mk q))[k]? = some x → ∀ i, i < 3 → cs[k * 3 + i]? = x[i]?
theorem Rm.prs {w wr : World} {l : List Pr} {mk : Pr} {q : Nat} (h : Rm w wr l mk q) : Prs wr (some ⟨w.heap.size + 1, 0, none⟩) (markTo l mk q) := fun _ => by
  obtain ⟨cs, hr, _, hc⟩ := h.f
  exact ⟨w.heap.size + 1, 0, rfl, hr.lt, fun k x hk i hi => by rw [hr.cell, Nat.zero_add]; exact hc k x hk i hi⟩
theorem Rm.cells {w wr : World} {l : List Pr} {mk : Pr} {q : Nat} (h : Rm w wr l mk q) (hq : q < l.length + 80) : ∀ i, i < 3 → ∃ v, wr.cell? ⟨w.heap.size + 1, q * 3 + i, none⟩ = some v ∧ wr.frozen? ⟨w.heap.size + 1, q * 3 + i, none⟩ = false := fun i hi => by
  obtain ⟨cs, hr, hs, _⟩ := h.f
  exact ⟨cs[q * 3 + i]'(by omega), by rw [hr.cell]; exact Array.getElem?_eq_getElem _, hr.free _⟩
theorem Rm.put {w wr : World} {l : List Pr} {mk : Pr} {q : Nat} (h : Rm w wr l mk q) (h0 : l.length ≤ q) (hq : q < l.length + 80) :
    Rm w (((wr.setCell ⟨w.heap.size + 1, q * 3, none⟩ (.string mk.k)).setCell ⟨w.heap.size + 1, q * 3 + 1, none⟩ (.string mk.v)).setCell ⟨w.heap.size + 1, q * 3 + 2, none⟩ (.int .i64 mk.n)) l mk (q + 1) := by
  obtain ⟨cs, hr, hs, hc⟩ := h.f
  have hb := (((Below.refl (w.heap.size + 1) wr).setCell (p := ⟨w.heap.size + 1, q * 3, none⟩) (Nat.le_refl _) (.string mk.k)).setCell (p := ⟨w.heap.size + 1, q * 3 + 1, none⟩) (Nat.le_refl _) (.string mk.v)).setCell (p := ⟨w.heap.size + 1, q * 3 + 2, none⟩) (Nat.le_refl _) (.int .i64 mk.n)
  refine ⟨h.low.trans (hb.mono (Nat.le_succ _)), (hb.block _ (Nat.lt_succ_self _)).trans h.m, putA cs (q * 3) _ _ _, ((hr.put (q * 3) _).put (q * 3 + 1) _).put (q * 3 + 2) _, by rw [size_putA, hs], fun k x hk i hi => ?_⟩
  rw [mark_next _ h0, prV_append] at hk
  have hlen : (prV (markTo l mk q)).length = q := by rw [prV_len, mark_len _ h0]
  by_cases hkq : k < q
  · rw [putA_other _ (by omega)]
    rw [List.getElem?_append_left (by rw [hlen]; exact hkq)] at hk
    exact hc k x hk i hi
  · have hl : k < q + 1 := by
      rcases Nat.lt_or_ge k (q + 1) with h1 | h1
      · exact h1
      · rw [List.getElem?_eq_none (by rw [List.length_append, hlen]; exact h1)] at hk; cases hk
    obtain rfl : k = q := by omega
    rw [List.getElem?_append_right (by rw [hlen]; exact Nat.le_refl _), hlen, Nat.sub_self] at hk
    have hx : mk.l = x := by simpa [prV] using hk
    subst hx
    rw [putA_in _ (by rw [hs]; omega) hi]
    rfl
set_option maxRecDepth 100000 in
set_option maxHeartbeats 4000000 in
theorem roomy_any (A : Option Addr) (n c : Nat) (l : List Pr) (mk : Pr) (w : World) (hn : l.length = n) (hl : Prs w A l) (ln : n ≤ 1000) :
    Calls Try.prog 17 #[.slice A n c, .agg #[.string mk.k, .string mk.v, .int .i64 mk.n]] w fun e w' =>
      e = .returned (.slice (some ⟨w.heap.size + 1, 0, none⟩) ((l.length + 80 : Nat)) ((l.length + 80 : Nat))) ∧ Prs w' (some ⟨w.heap.size + 1, 0, none⟩) (roomL l mk) ∧ Below w.heap.size w w' := by
  subst hn
  obtain ⟨i0, hi, hz0, hz1, hz2⟩ := pair_parts
  have hsz := hide (show (Try.prog.info? 29).map (·.size) = some 3 by rw [hi]; exact congrArg some hz1)
  have hu : Try.prog.underlying 22 = some (.slice 29) := under_pairs
  have HM := hide (Row.new w 29 #[.string mk.k, .string mk.v, .int .i64 mk.n])
  have HL := hide hl
  clear hl
  go_enter Try.func17, Try.ntmps17
  go_wp2_with (at_make; refine wpList_make_full _ rfl _ _ 22 rfl (w.heap.size + 1) 29 i0 _ 3 hu hi hz0 hz1 _ _ _ _ (l.length + 80) rfl rfl (by omega) (by omega) ?b2 ?b3 (by simp) ?_)
  case b2 => rw [hz2]; omega
  case b3 => unfold maxLen; omega
  intro w0 hown0 hgrow0
  obtain ⟨cur, hcur, hcsz⟩ : ∃ cur, w0.heap[w.heap.size + 1]? = some (.cells cur 29 (0, 0)) ∧ cur.size = (l.length + 80) * 3 := by
    rcases hown0.2 with ⟨h0, _⟩ | ⟨g', cap, cur, hv, hb, hh, _, hm, hs, ht⟩
    · cases h0
    · injection hv with h1 _ h3
      injection h1 with h1
      injection h1 with h1
      subst h1 h3
      exact ⟨cur, hh, hs⟩
  have hb0 : Below w.heap.size w w0 := kept_trans (kept_alloc (kept_refl w) _) (below_grown hgrow0)
  have HL0 := hide (HL.out.below hb0)
  have HM0 := hide (HM.out.grown hgrow0 (by simp))
  have HB0 := hide hb0
  clear HL HM hown0 hgrow0 hb0 hi hz0 hz1 hz2
  have hcopy := run_copy_els (P := Try.prog) w0 22 22 3 29 (w.heap.size + 1) (l.length + 80) (l.length + 80) A l.length c 3 (prV l) hu hsz.out cur _ hcur (prV_len _) (by omega) (by omega) (prV_all _) HL0.out
  obtain ⟨w1, hw1⟩ : ∃ w1, w1 = w0.setRow (w.heap.size + 1) (cellsV (prV l) ++ cur.toList.drop (l.length * 3)).toArray := ⟨_, rfl⟩
  rw [← hw1] at hcopy
  have ST : Hid (Rm w w1 l mk l.length) := by
    subst hw1
    refine ⟨HB0.out.trans ⟨rfl, rfl, rfl, by simp [World.setRow], fun k hk => setRow_other w0 _ k _ (by omega)⟩, (setRow_other w0 _ _ _ (by omega)).trans HM0.out, _, setRow_heap w0 _ cur _ _ _ hcur, ?_, fun k x hk i hi => ?_⟩
    · simp [length_cellsV (prV_all l), prV_len, hcsz]; omega
    · rw [mark_here] at hk
      have h1 := cellsV_of (prV_all l) hk i hi
      have h3 : x.length = 3 := (prV_all l).at_ hk
      have h2 : k * 3 + i < (cellsV (prV l)).length := by
        rcases Nat.lt_or_ge (k * 3 + i) (cellsV (prV l)).length with h4 | h4
        · exact h4
        · rw [List.getElem?_eq_none h4, List.getElem?_eq_getElem (by omega)] at h1; cases h1
      rw [List.getElem?_toArray, List.getElem?_append_left h2]
      exact h1
  clear hw1 hcur hcsz HB0 HM0 HL0 hu hsz
  go_wp2
  go_loopw [6] (fun i wr => ∃ q : Nat, l.length ≤ q ∧ q ≤ l.length + 80 ∧ i = .int .i64 q ∧ Hid (Rm w wr l mk q)) (fun i _ => l.length + 80 - (intOf i).toNat)
  case atStart => exact ⟨l.length, by omega, by omega, rfl, ST⟩
  case round =>
    clear ST
    obtain ⟨q, hq0, hq1, rfl, J⟩ := hrel
    by_cases hlt : q < l.length + 80
    · have hlt' : (q : Int) < (l.length : Int) + 80 := by omega
      obtain ⟨f0, f1, f2⟩ := J.out.m.three
      obtain ⟨v0, c0, g0⟩ := J.out.cells hlt 0 (by omega)
      obtain ⟨v1, c1, g1⟩ := J.out.cells hlt 1 (by omega)
      obtain ⟨v2, c2, g2⟩ := J.out.cells hlt 2 (by omega)
      replace c0 : wr.cell? ⟨w.heap.size + 1, q * 3, none⟩ = some v0 := c0
      replace g0 : wr.frozen? ⟨w.heap.size + 1, q * 3, none⟩ = false := g0
      have J1 := hide (J.out.put hq0 hlt)
      clear J
      go_wp2
      go_roundw
      case rel => exact ⟨q + 1, by omega, by omega, by go_num, J1⟩
      case measure => simp [intOf]; omega
    · obtain rfl : q = l.length + 80 := by omega
      go_wp2
      go_ret
      have h := J.out.prs
      rw [room_mark] at h
      exact ⟨rfl, h, J.out.low⟩
set_option maxRecDepth 100000 in
set_option maxHeartbeats 4000000 in
theorem intact_any (A B : Option Addr) (n m c d : Nat) (ys : List Pr) (mk : Pr) (w : World) (hn : m + 80 = n) (hm : ys.length = m) (hz : Prs w A (roomL ys mk)) (hy : Prs w B ys) (ln : n ≤ c) (lc : c ≤ 4611686018427387904) (lm : m ≤ 4611686018427387904) :
    Calls Try.prog 22 #[.slice A n c, .slice B m d, .agg #[.string mk.k, .string mk.v, .int .i64 mk.n]] w fun e w' => e = .returned (.bool true) ∧ Below w.heap.size w w' := by
  subst hn hm
  have hz1 := hz.alloc (.cells #[.string mk.k, .string mk.v, .int .i64 mk.n] 29)
  have hy1 := hy.alloc (.cells #[.string mk.k, .string mk.v, .int .i64 mk.n] 29)
  have hy2 := hz1.take ys.length
  rw [room_take] at hy2
  have hsame := hide (fun c' => same_any A B ys.length ys.length c' d ys ys (w.alloc (.cells #[.string mk.k, .string mk.v, .int .i64 mk.n] 29)) rfl rfl hy2 hy1 lm lm)
  have hM := hide (Row.new w 29 #[.string mk.k, .string mk.v, .int .i64 mk.n])
  have hB := hide (kept_alloc (kept_refl w) (.cells #[.string mk.k, .string mk.v, .int .i64 mk.n] 29))
  have HAT := hide (fun k h1 h2 => hz1.at_ (room_at (k := k) h1 h2))
  have hneq : ∀ w, (binOp .neq 29 (.agg #[.string mk.k, .string mk.v, .int .i64 mk.n]) (.agg #[.string mk.k, .string mk.v, .int .i64 mk.n])).run Try.prog w = .ok (.bool false) w := fun w => by
    rw [neq_pair]; simp
  have hd : decide (ys = ys) = true := decide_eq_true rfl
  rw [hd] at hsame
  clear hz hy hz1 hy1 hy2 hd
  go_enter Try.func22, Try.ntmps22
  go_upto_region 1 with (fail)
  generalize World.alloc w _ = w1 at hsame hM hB HAT ⊢
  go_wp2_with (go_at_call 13; refine (hsame.out _).mono ?_; rintro e w' ⟨rfl, q, rfl⟩)
  go_loopw [7] (fun i wr => ∃ k q : Nat, ys.length ≤ k ∧ k ≤ ys.length + 80 ∧ i = .int .i64 k ∧ wr = w1.drewN q) (fun i _ => ys.length + 80 - (intOf i).toNat)
  case atStart => exact ⟨ys.length, _, by omega, by omega, rfl, rfl⟩
  case round =>
    obtain ⟨k, q, hk0, hk, rfl, rfl⟩ := hrel
    by_cases hlt : k < ys.length + 80
    · have hlt' : (k : Int) < (ys.length : Int) + 80 := by omega
      obtain ⟨b1, o1, rfl, _, e0, e1, e2⟩ := HAT.out k hk0 hlt
      obtain ⟨f0, f1, f2⟩ := hM.out.three
      go_wp2
      go_quiet (fail)
      go_wp2
      go_roundw
      case rel => exact ⟨k + 1, _, by omega, by omega, by go_num, rfl⟩
      case measure => simp [intOf]; omega
    · obtain rfl : k = ys.length + 80 := by omega
      go_wp2
      go_ret
      exact ⟨rfl, kept_drewN hB.out _⟩
end Go.Proofs.Ytmcemijipplkgaa
