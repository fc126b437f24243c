/- The program's putNums, putBallot; Put of packages cmd and deps: bytes of the call's own behind others. Conditions: numbers such as an int holds, lengths have room. -/
import Derived.Test.YtlnpfaoeockoiaaWe
import Derived.Test.YtlnpfaoeockoiaaWc
import Derived.Test.YtlnpfaoeockoiaaWf
import Derived.Test.YtlnpfaoeockoiaaWg
namespace Go.Proofs.Ytlnpfaoeockoiaa
set_option maxRecDepth 100000
open Go.RowKit
set_option maxRecDepth 100000 in
set_option maxHeartbeats 4000000 in
theorem dput_own (A0 : Option Addr) (n0 c0 : Nat) (z0 : List Int) (a0 a1 a2 a3 a4 a5 a6 a7 : Int) (w : World) (h0 : z0.length = n0) (hz0 : Lies w A0 z0) (hA0 : A0 = none → c0 = 0) (ln0 : n0 ≤ 140737488354000) (h : ∀ n, n ∈ [a0, a1, a2, a3, a4, a5, a6, a7] → I64 n) : Calls Try.prog 34 #[.slice A0 n0 c0, .agg #[.int .i64 a0, .int .i64 a1, .int .i64 a2, .int .i64 a3, .int .i64 a4, .int .i64 a5, .int .i64 a6, .int .i64 a7]] w (MadeO w (n0 + (encN [a0, a1, a2, a3, a4, a5, a6, a7]).length) (z0 ++ encN [a0, a1, a2, a3, a4, a5, a6, a7])) := by
  have hk : ∀ k, k < 8 → I64 (ix [a0, a1, a2, a3, a4, a5, a6, a7] k) := fun k hk => h _ (by rw [ix_lt _ (by simpa using hk)]; exact List.getElem_mem _)
  have HK := hide hk
  have HN0 := hide h0
  have HZ0 := hide hz0
  have HA0 := hide hA0
  clear h0 hz0 hA0
  have o0 : I64 a0 := hk 0 (by omega)
  have HALL := hide (bytesTo_all (a0 := a0) (a1 := a1) (a2 := a2) (a3 := a3) (a4 := a4) (a5 := a5) (a6 := a6) (a7 := a7))
  have hlen := encN_len [a0, a1, a2, a3, a4, a5, a6, a7]
  have hm : (encN [a0, a1, a2, a3, a4, a5, a6, a7]).length ≤ 80 := hlen.2
  generalize encN [a0, a1, a2, a3, a4, a5, a6, a7] = zs at HALL hm ⊢
  have hn0 := hide (fun w => num_nil (m := a0) (ys := bytesTo [a0, a1, a2, a3, a4, a5, a6, a7] 0) (n := (bytesTo [a0, a1, a2, a3, a4, a5, a6, a7] 0).length) w o0.1 o0.2 rfl rfl)
  have hb0 := hide ((Below.refl w.heap.size w).alloc (Nat.le_refl _) (.cells #[.int .i64 a0, .int .i64 a1, .int .i64 a2, .int .i64 a3, .int .i64 a4, .int .i64 a5, .int .i64 a6, .int .i64 a7] 33))
  clear h hk hlen o0
  go_enter Try.func34, Try.ntmps34
  go_upto_region 2 with (go_at_call 73; refine (hn0.out _).mono ?_; rintro e w1 ⟨A, c, rfl, hc, hL, hA, hb⟩)
  have R := hide ((Row.new w 33 #[.int .i64 a0, .int .i64 a1, .int .i64 a2, .int .i64 a3, .int .i64 a4, .int .i64 a5, .int .i64 a6, .int .i64 a7]).below hb (by simp))
  have HB := hide (hb0.out.trans (hb.mono hb0.out.size))
  have HP := hide (And.intro hL (And.intro hA hc))
  obtain ⟨f0, f1, f2, f3, f4, f5, f6, f7⟩ := R.out.eight
  replace f1 : w1.cell? ⟨w.heap.size, 1, none⟩ = some (.int .i64 a1) := f1
  replace f2 : w1.cell? ⟨w.heap.size, 2, none⟩ = some (.int .i64 a2) := f2
  replace f3 : w1.cell? ⟨w.heap.size, 3, none⟩ = some (.int .i64 a3) := f3
  replace f4 : w1.cell? ⟨w.heap.size, 4, none⟩ = some (.int .i64 a4) := f4
  replace f5 : w1.cell? ⟨w.heap.size, 5, none⟩ = some (.int .i64 a5) := f5
  replace f6 : w1.cell? ⟨w.heap.size, 6, none⟩ = some (.int .i64 a6) := f6
  replace f7 : w1.cell? ⟨w.heap.size, 7, none⟩ = some (.int .i64 a7) := f7
  clear f0 hb hL hA hc hb0 hn0 R
  go_wp2
  clear f1 f2 f3 f4 f5 f6 f7
  go_loopw [5, 13] (fun v i wr => ∃ k : Nat, k ≤ 7 ∧ i = .int .i64 k ∧ (∃ A c, v = .slice A (bytesTo [a0, a1, a2, a3, a4, a5, a6, a7] k).length c ∧ Hid (Lies wr A (bytesTo [a0, a1, a2, a3, a4, a5, a6, a7] k) ∧ (A = none → c = 0) ∧ (bytesTo [a0, a1, a2, a3, a4, a5, a6, a7] k).length ≤ c)) ∧ Hid (Below w.heap.size w wr)) (fun _ i _ => 7 - (intOf i).toNat)
  case atStart => exact ⟨0, by omega, rfl, ⟨A, c, rfl, HP⟩, HB⟩
  case round =>
    clear HP HB
    obtain ⟨k, hk, rfl, ⟨A, c, rfl, HP⟩, HB⟩ := hrel
    by_cases hlt : k < 7
    · have hi := index_deps a1 a2 a3 a4 a5 a6 a7 k hlt
      have he : ix [a1, a2, a3, a4, a5, a6, a7] k = ix [a0, a1, a2, a3, a4, a5, a6, a7] (k + 1) := rfl
      rw [he] at hi
      have oi := HK.out (k + 1) (by omega)
      have hbl := bytesTo_len [a0, a1, a2, a3, a4, a5, a6, a7] k
      have hcon := hide (fun w' (hb : w' = wr) => num_use (n := (bytesTo [a0, a1, a2, a3, a4, a5, a6, a7] k).length) (c := c) (w := w') (A := A) (ix [a0, a1, a2, a3, a4, a5, a6, a7] (k + 1)) rfl (hb ▸ HP.out.1) HP.out.2.1 (by omega) oi.1 oi.2)
      have HS : Hid (bytesTo [a0, a1, a2, a3, a4, a5, a6, a7] (k + 1) = bytesTo [a0, a1, a2, a3, a4, a5, a6, a7] k ++ num7 (ix [a0, a1, a2, a3, a4, a5, a6, a7] (k + 1))) := rfl
      clear he oi
      generalize ix [a0, a1, a2, a3, a4, a5, a6, a7] (k + 1) = q at hi hcon HS
      have k7 : (k : Int) < 7 := by omega
      go_wp2_with (go_at_call 73; refine (hcon.out _ rfl).mono ?_; rintro e w2 ⟨A', c', rfl, hc, hL, hA, hb⟩)
      have HB2 := hide (HB.out.trans (hb.mono HB.out.size))
      have HP2 := hide (And.intro hL (And.intro hA hc))
      clear hb hL hA hc
      go_roundw
      case rel => exact ⟨k + 1, by omega, by go_num, ⟨A', c', by rw [HS.out, List.length_append], by rw [HS.out, List.length_append]; exact HP2⟩, HB2⟩
      case measure => simp [intOf]; omega
    · obtain rfl : k = 7 := by omega
      rw [HALL.out] at HP ⊢
      have k7 : ¬ (((7 : Nat) : Int) < 7) := by omega
      have hcon := hide (concat_own A0 A n0 c0 zs.length c wr.heap.size z0 zs (wr.alloc (.cells #[.slice A0 n0 c0, .slice A zs.length c] 22)) HN0.out rfl ((HZ0.out.below HB.out).alloc _) (HP.out.1.alloc _) HA0.out HP.out.2.1 (by omega) (by simp) ((Row.new _ _ _).cell 0) ((Row.new _ _ _).cell 1))
      go_wp2_with (go_at_call 59; refine hcon.out.mono ?_; rintro e w2 ⟨v, rfl, ho, hb⟩)
      go_ret
      exact ⟨v, rfl, own_lower ho (by have := HB.out.size; simp; omega), HB.out.trans ((kept_trans (kept_alloc (kept_refl _) _) hb).mono HB.out.size)⟩
/-- Bytes of the call's own, from block b0 on. -/
def MadeF (b0 : Nat) (w : World) (zs : List Int) (e : Ending) (w' : World) : Prop := ∃ u, e = .returned u ∧ By b0 w' u zs ∧ Below w.heap.size w w'
theorem madeF_of {b0 : Nat} {w : World} {n m : Nat} {zs ys : List Int} (h1 : zs.length = n) (h2 : ys.length = m) (hb : b0 ≤ w.heap.size) {e : Ending} {w' : World} (h : MadeO w (n + m) (zs ++ ys) e w') : MadeF b0 w (zs ++ ys) e w' := by
  obtain ⟨u, h3, h4, h5⟩ := h
  subst h1 h2
  rw [← List.length_append] at h4
  exact ⟨u, h3, (show By w.heap.size w' u (zs ++ ys) from h4).mono hb, h5⟩
theorem MadeB.made {b0 : Nat} {w : World} {zs : List Int} {e : Ending} {w' : World} (h : MadeB w zs e w') (hb : b0 ≤ w.heap.size) : MadeF b0 w zs e w' := by
  obtain ⟨u, h1, h2, h3⟩ := h
  exact ⟨u, h1, h2.mono hb, h3⟩
section
variable {b0 : Nat} {w : World} {v : Value} {zs : List Int}
theorem cput_by (hv : By b0 w v zs) (hl : zs.length ≤ 140737488354000) (c : Cm) (hb : b0 ≤ w.heap.size) : Calls Try.prog 33 #[v, .agg #[.int .i64 c.k, .int .i64 c.c, .int .i64 c.q, .string c.key, .string c.en, .string c.old, .string c.val]] w (MadeF b0 w (zs ++ packC c)) := by
  obtain ⟨A, cp, rfl, hA, _, _, hlz⟩ := hv.form
  exact (cput_own A _ cp zs c.k c.c c.q c.key c.en c.old c.val w rfl hlz hA (by omega)).mono fun _ _ h => madeF_of rfl rfl hb h
theorem dput_by (hv : By b0 w v zs) (hl : zs.length ≤ 140737488354000) {a : List Int} (h8 : a.length = 8) (ho : ∀ n, n ∈ a → I64 n) (hb : b0 ≤ w.heap.size) : Calls Try.prog 34 #[v, .agg (cA a)] w (MadeF b0 w (zs ++ encN a)) := by
  obtain ⟨A, cp, rfl, hA, _, _, hlz⟩ := hv.form
  obtain ⟨a0, a1, a2, a3, a4, a5, a6, a7, rfl⟩ := len8 h8
  exact (dput_own A _ cp zs a0 a1 a2 a3 a4 a5 a6 a7 w rfl hlz hA (by omega) ho).mono fun _ _ h => madeF_of rfl rfl hb h
end
/-- Numbers lie one behind the other. -/
def NsAt (w : World) (g off : Nat) (l : List Int) : Prop := g < w.heap.size ∧ ∀ k, k < l.length → w.cell? ⟨g, off + k, none⟩ = some (.int .i64 (ix l k))
theorem NsAt.below {w w' : World} {g off : Nat} {l : List Int} (h : NsAt w g off l) (hb : Below w.heap.size w w') : NsAt w' g off l :=
  ⟨Nat.lt_of_lt_of_le h.1 hb.size, fun k hk => (hb.cell (p := ⟨g, off + k, none⟩) h.1).trans (h.2 k hk)⟩
theorem NsAt.grown {w w' : World} {g off : Nat} {l : List Int} (h : NsAt w g off l) (hb : w.grownBy w' none) : NsAt w' g off l :=
  h.below ⟨hb.os, hb.tape, hb.output, hb.size, fun k hk => hb.block k hk (fun e => by cases e)⟩
theorem encN_take_all (l : List Int) : encN (l.take l.length) = encN l := by rw [List.take_length]
set_option maxHeartbeats 4000000 in
theorem pnums_by {b0 : Nat} {w : World} {v : Value} {zs : List Int} (hv : By b0 w v zs) {g off c : Nat} {l : List Int} (hn : NsAt w g off l) (h64 : ∀ n, n ∈ l → I64 n) (hl : zs.length + 10 * l.length ≤ 140737488354000) (hb : b0 ≤ w.heap.size) :
    Calls Try.prog 31 #[v, .slice (some ⟨g, off, none⟩) l.length c] w (MadeF b0 w (zs ++ encN l)) := by
  have HV := hide hv
  have HN := hide hn
  have HI := hide (fun (j : Nat) (hj : j < l.length) => h64 (ix l j) (by rw [ix_lt l hj]; exact List.getElem_mem _))
  have HT := hide (fun (j : Nat) (hj : j < l.length) => encN_take (a := l) (k := j) hj)
  have HE := hide (encN_take_all l)
  have HL := hide (fun (j : Nat) => (encN_len (l.take j)).2)
  have hlen : l.length ≤ 14073748835401 := by omega
  clear hv hn h64
  go_enter Try.func31, Try.ntmps31
  go_wp2
  go_loopw [0, 9] (fun b i wr => ∃ j : Nat, j ≤ l.length ∧ i = .int .i64 j ∧ Hid (By b0 wr b (zs ++ encN (l.take j))) ∧ Hid (Below w.heap.size w wr)) (fun _ i _ => l.length - (intOf i).toNat)
  case atStart => exact ⟨0, by omega, rfl, hide (by rw [List.take_zero]; show By b0 w v (zs ++ []); rw [List.append_nil]; exact HV.out), hide (Below.refl _ _)⟩
  case round =>
    obtain ⟨j, hj, rfl, HY, HBR⟩ := hrel
    by_cases hlt : j < l.length
    · have j7 : (j : Int) < (l.length : Int) := by omega
      have cq := (HN.out.below HBR.out).2 j hlt
      have HQ := hide (HI.out j hlt)
      have HS := hide (HT.out j hlt)
      have HLL := hide (show (zs ++ encN (l.take j)).length ≤ 140737488354000 by rw [len_two]; have := HL.out j; rw [List.length_take] at this; omega)
      generalize ix l j = q at cq HQ HS
      have HN2 := hide (bnum HY.out q HLL.out HQ.out.1 HQ.out.2)
      go_wp2_with (go_at_call 73; (with_reducible refine HN2.out.mono ?_); rintro e w4 ⟨u4, rfl, hy, hb4⟩)
      have HY3 := hide (show By b0 w4 u4 (zs ++ encN (l.take (j + 1))) by rw [HS.out, ← List.append_assoc]; exact hy.mono (Nat.le_trans hb HBR.out.size))
      have HB3 := hide (kept_trans HBR.out hb4)
      clear hy hb4
      go_roundw
      case rel => exact ⟨j + 1, by omega, by go_num, HY3, HB3⟩
      case measure => simp [intOf]; omega
    · have e7 : j = l.length := by omega
      have j7 : ¬ (j : Int) < (l.length : Int) := by omega
      have HY := hide (show By b0 wr _ (zs ++ encN l) by rw [← HE.out, ← e7]; exact HY.out)
      clear e7 hlt
      go_wp2
      go_ret
      exact ⟨_, rfl, HY.out, HBR.out⟩
theorem ns_lit (w : World) (l : List Int) (t : TypeId) {cs : Array Value} (h : cs = (cellsR l).toArray) : NsAt (w.alloc (.cells cs t)) w.heap.size 0 l := by
  subst h
  refine ⟨by simp, fun k hk => ?_⟩
  have R := Row.new w t (cellsR l).toArray
  rw [R.cell, List.getElem?_toArray, Nat.zero_add]
  exact cellsR_at l hk
theorem encN_two (p : Int × Int) : encN [p.1, p.2] = encB p := by unfold encN encB; simp
set_option maxHeartbeats 4000000 in
theorem pballot_by {b0 : Nat} {v : Value} {zs : List Int} {w : World} (hv : By b0 w v zs) (hl : zs.length ≤ 140737488353500) (p : Int × Int) (h1 : I64 p.1) (h2 : I64 p.2) (hb0 : b0 ≤ w.heap.size) :
    Calls Try.prog 32 #[v, .agg #[.int .i64 p.1, .int .i64 p.2]] w (MadeF b0 w (zs ++ encB p)) := by
  have e2 := encN_two p
  rw [← e2]
  clear e2
  obtain ⟨p1, p2⟩ := p
  have HB0 := hide ((Below.refl w.heap.size w).alloc (Nat.le_refl _) (.cells #[.int .i64 p1, .int .i64 p2] 27))
  have HV := hide (hv.below HB0.out)
  have hr := Row.new w 27 #[.int .i64 p1, .int .i64 p2]
  have c0 := hr.cell 0
  have c1 := hr.cell 1
  have HC := hide (show ∀ (w1 : World) (t : TypeId), By b0 w1 v zs → b0 ≤ w1.heap.size → Calls Try.prog 31 #[v, .slice (some ⟨w1.heap.size, 0, none⟩) 2 2] (w1.alloc (.cells #[.int .i64 p1, .int .i64 p2] t)) (MadeF b0 (w1.alloc (.cells #[.int .i64 p1, .int .i64 p2] t)) (zs ++ encN [p1, p2])) from
    fun w1 t hV hs => pnums_by (w := w1.alloc (.cells #[.int .i64 p1, .int .i64 p2] t)) (hV.below ((Below.refl _ _).alloc (Nat.le_refl _) _)) (c := 2) (ns_lit w1 [p1, p2] t rfl) (fun n hn => by simp at hn; rcases hn with rfl | rfl <;> assumption) (show zs.length + 10 * 2 ≤ 140737488354000 by omega) (by simp; omega))
  have HH := hide hb0
  clear hv hr
  go_enter Try.func32, Try.ntmps32
  go_upto_region 1 with (fail)
  generalize w.alloc (.cells #[.int .i64 p1, .int .i64 p2] 27) = w1 at HB0 HV c0 c1 ⊢
  go_wp2_with (go_at_call 31; (with_reducible refine (HC.out w1 _ HV.out (Nat.le_trans HH.out HB0.out.size)).mono ?_); rintro e w2 ⟨u, rfl, hy, hb⟩)
  go_ret
  exact ⟨u, rfl, hy, kept_trans HB0.out (kept_trans ((Below.refl _ _).alloc (Nat.le_refl _) _) hb)⟩
end Go.Proofs.Ytlnpfaoeockoiaa
/- The program's packedCell and PutCell. Conditions: a cell's attributes are eight numbers; the slice lies, lengths have room. -/
namespace Go.Proofs.Ytlnpfaoeockoiaa
set_option maxRecDepth 100000
open Go.RowKit
theorem MadeB.nil_ (w w' : World) (hb : Below w.heap.size w w') : MadeB w [] (.returned (.slice none 0 0)) w' := ⟨_, rfl, By.nil_ _ _, hb⟩
set_option maxHeartbeats 8000000 in
theorem ppacked_any (x : Cl) (h8 : x.a.length = 8) (w : World) : Calls Try.prog 60 #[.agg (clC x)] w (MadeB w (encCl x)) := by
  have HP := hide (fun w => prightcell_any x h8 w)
  have CE := hide (CeAt.new (x := x) h8 w 35)
  have HB0 := hide ((Below.refl w.heap.size w).alloc (Nat.le_refl _) (.cells (clC x) 35))
  cases hr : rightCl x
  · simp only [hr] at HP
    have e : encCl x = [] := by unfold encCl; rw [hr]; rfl
    rw [e]
    clear e hr
    go_enter Try.func60, Try.ntmps60
    go_upto_region 1 with (fail)
    generalize w.alloc (.cells (clC x) 35) = w1 at CE HB0 ⊢
    go_wp2_with (first
      | ((with_reducible refine wpList_load_ce h8 ?_ ?_ CE.out.all ?_); rfl; rfl)
      | (go_at_call 15; (with_reducible refine (HP.out _).mono ?_); rintro e w2 ⟨rfl, hb⟩; have HB0 := hide (kept_trans HB0.out hb); clear hb))
    go_ret
    exact MadeB.nil_ _ _ HB0.out
  · simp only [hr] at HP
    have ok := hide (rightCl_says hr)
    have e : encCl x = encX x := by unfold encCl; rw [hr]; rfl
    rw [e]
    clear e hr
    have HX := hide h8
    obtain ⟨a0, a1, a2, a3, a4, a5, a6, a7, ha⟩ := len8 h8
    have HA := hide (rightAl_says ok.out.a h8)
    obtain ⟨st, ⟨p1, p2⟩, ⟨v1, v2⟩, ⟨ck, cc, cq, ca, cb, co, cv⟩, a, s⟩ := x
    dsimp only at ha h8 ok HA HX
    subst ha
    clear h8
    go_enter Try.func60, Try.ntmps60
    go_upto_region 1 with (fail)
    generalize w.alloc (.cells (clC _) 35) = w1 at CE HB0 ⊢
    go_upto_region 3 with (first
      | ((with_reducible refine wpList_load_ce (y := ⟨st, (p1, p2), (v1, v2), ⟨ck, cc, cq, ca, cb, co, cv⟩, [a0, a1, a2, a3, a4, a5, a6, a7], s⟩) HX.out ?_ ?_ CE.out.all ?_); rfl; rfl)
      | (go_at_call 15; (with_reducible refine (HP.out _).mono ?_); rintro e w2 ⟨rfl, hb⟩; have HB0 := hide (kept_trans HB0.out hb); have CE := hide (CE.out.kept hb); clear hb))
    generalize (Value.agg (clC _)) = va
    refine wp_region_noPanic ?_
    refine wp_region_T 6 (fun w' => CeAt w' w.heap.size 35 ⟨st, (p1, p2), (v1, v2), ⟨ck, cc, cq, ca, cb, co, cv⟩, [a0, a1, a2, a3, a4, a5, a6, a7], s⟩) (by kernel_rfl) ?_
    have HD := hide (show (fun w' => CeAt w' w.heap.size 35 ⟨st, (p1, p2), (v1, v2), ⟨ck, cc, cq, ca, cb, co, cv⟩, [a0, a1, a2, a3, a4, a5, a6, a7], s⟩) w2.drew ∧ By w.heap.size w2.drew (.slice none 0 0) [] ∧ Below w.heap.size w w2.drew from ⟨CE.out.drew, By.nil_ _ _, HB0.out.drew⟩)
    generalize World.drew _ = wda at HD ⊢
    refine anyT_take (i := 0) (v := ?ov0a) (by simp only [List.getElem?_toArray, List.getElem?_cons_zero]; exact rfl) (by kernel_rfl) (by kernel_rfl) (fun _ _ _ h => h) (by kernel_rfl) (by kernel_rfl) (Or.inl ⟨by rfl, ?oy0a⟩) (by with_reducible exact HD.out.1) ?or0a
    case oy0a => (intro w hSw; skip; go_simp; try with_reducible rfl)
    try simp only [Act.put, List.setIfInBounds_toArray, List.set_cons_zero, List.set_cons_succ]
    refine anyT_take (i := 1) (v := ?ov1a) (by simp only [List.getElem?_toArray, List.getElem?_cons_succ, List.getElem?_cons_zero]; exact rfl) (by kernel_rfl) (by kernel_rfl) (fun _ _ _ h => h) (by kernel_rfl) (by kernel_rfl) (Or.inl ⟨by rfl, ?oy1a⟩) (by with_reducible exact HD.out.1) ?or1a
    case oy1a => (intro w hSw; obtain ⟨c0, c1, c2, c3, c4, c5, c6, c7, c8, c9, c10, c11, c12, c13, c14, c15, c16, c17, c18, c19, c20⟩ := hSw.cells rfl; (try dsimp only at c0 c1 c2 c3 c4 c5 c6 c7 c8 c9 c10 c11 c20); go_simp; try with_reducible rfl)
    try simp only [Act.put, List.setIfInBounds_toArray, List.set_cons_zero, List.set_cons_succ]
    refine anyT_take (i := 3) (v := ?ov3a) (by simp only [List.getElem?_toArray, List.getElem?_cons_succ, List.getElem?_cons_zero]; exact rfl) (by kernel_rfl) (by kernel_rfl) (fun _ _ _ h => h) (by kernel_rfl) (by kernel_rfl) (Or.inl ⟨by rfl, ?oy3a⟩) (by with_reducible exact HD.out.1) ?or3a
    case oy3a => (intro w hSw; skip; go_simp; try with_reducible rfl)
    try simp only [Act.put, List.setIfInBounds_toArray, List.set_cons_zero, List.set_cons_succ]
    refine anyT_take (i := 4) (v := ?ov4a) (by simp only [List.getElem?_toArray, List.getElem?_cons_succ, List.getElem?_cons_zero]; exact rfl) (by kernel_rfl) (by kernel_rfl) (fun _ _ _ h => h) (by kernel_rfl) (by kernel_rfl) (Or.inl ⟨by rfl, ?oy4a⟩) (by with_reducible exact HD.out.1) ?or4a
    case oy4a => (intro w hSw; obtain ⟨c0, c1, c2, c3, c4, c5, c6, c7, c8, c9, c10, c11, c12, c13, c14, c15, c16, c17, c18, c19, c20⟩ := hSw.cells rfl; (try dsimp only at c0 c1 c2 c3 c4 c5 c6 c7 c8 c9 c10 c11 c20); go_simp; try with_reducible rfl)
    try simp only [Act.put, List.setIfInBounds_toArray, List.set_cons_zero, List.set_cons_succ]
    refine anyT_one (i := 2) (by kernel_rfl) (by simp only [List.getElem?_toArray, List.getElem?_cons_succ, List.getElem?_cons_zero]; exact rfl) (fun K hK => ?_)
    try go_simp
    refine (bnum HD.out.2.1 st (by simp) (by have := ok.out.st; dsimp only at this; omega) (by have := ok.out.st; dsimp only at this; omega)).mono ?_
    rintro e w2a ⟨y2a, rfl, hy, hb⟩
    have HD := hide (show (fun w' => CeAt w' w.heap.size 35 ⟨st, (p1, p2), (v1, v2), ⟨ck, cc, cq, ca, cb, co, cv⟩, [a0, a1, a2, a3, a4, a5, a6, a7], s⟩) w2a ∧ By w.heap.size w2a y2a ([] ++ num7 st) ∧ Below w.heap.size w w2a from ⟨(fun hb h => CeAt.kept h hb) hb HD.out.1, hy.mono HD.out.2.2.size, kept_trans HD.out.2.2 hb⟩)
    have HL := hide (show ([] ++ num7 st).length ≤ 140737488354000 from by rw [len_two, List.length_nil]; have := (num7_len st).2; have := encB_len (p1, p2); have := encB_len (v1, v2); have := packC_len ⟨ck, cc, cq, ca, cb, co, cv⟩; have := (encN_len [a0, a1, a2, a3, a4, a5, a6, a7]).2; have : ([a0, a1, a2, a3, a4, a5, a6, a7] : List Int).length = 8 := rfl; have : (flg7 s).length = 1 := rfl; omega)
    clear hy hb
    refine hK.out _ _ (fun _ => HD.out.1) ?_
    clear hK K
    try simp only [Act.put, List.setIfInBounds_toArray, List.set_cons_zero, List.set_cons_succ]
    refine anyT_one (i := 5) (by kernel_rfl) (by simp only [List.getElem?_toArray, List.getElem?_cons_succ, List.getElem?_cons_zero]; exact rfl) (fun K hK => ?_)
    try go_simp
    refine (pballot_by HD.out.2.1 (by have := (num7_len st).2; rw [len_two, List.length_nil]; omega) (p1, p2) (small ok.out.p.1.1 ok.out.p.1.2) (small ok.out.p.2.1 (by have := ok.out.p; dsimp only at this; omega)) HD.out.2.2.size).mono ?_
    rintro e w5a ⟨y5a, rfl, hy, hb⟩
    have HD := hide (show (fun w' => CeAt w' w.heap.size 35 ⟨st, (p1, p2), (v1, v2), ⟨ck, cc, cq, ca, cb, co, cv⟩, [a0, a1, a2, a3, a4, a5, a6, a7], s⟩) w5a ∧ By w.heap.size w5a y5a (([] ++ num7 st) ++ encB (p1, p2)) ∧ Below w.heap.size w w5a from ⟨(fun hb h => CeAt.kept h hb) hb HD.out.1, hy, kept_trans HD.out.2.2 hb⟩)
    have HL := hide (show (([] ++ num7 st) ++ encB (p1, p2)).length ≤ 140737488354000 from by rw [len_two, len_two, List.length_nil]; have := (num7_len st).2; have := encB_len (p1, p2); have := encB_len (v1, v2); have := packC_len ⟨ck, cc, cq, ca, cb, co, cv⟩; have := (encN_len [a0, a1, a2, a3, a4, a5, a6, a7]).2; have : ([a0, a1, a2, a3, a4, a5, a6, a7] : List Int).length = 8 := rfl; have : (flg7 s).length = 1 := rfl; omega)
    clear hy hb
    refine hK.out _ _ (fun _ => HD.out.1) ?_
    clear hK K
    try simp only [Act.put, List.setIfInBounds_toArray, List.set_cons_zero, List.set_cons_succ]
    refine anyT_one (i := 6) (by kernel_rfl) (by simp only [List.getElem?_toArray, List.getElem?_cons_succ, List.getElem?_cons_zero]; exact rfl) (fun K hK => ?_)
    try go_simp
    refine hK.out _ _ (fun e => absurd rfl e) ?_
    clear hK K
    refine anyT_done (by kernel_rfl) ?_
    refine NoPanic.normal ?_
    try simp only [Act.put]
    generalize w5a = w2, y5a = u2 at HD ⊢
    have HD2 := hide HD.out
    clear HD HL HP CE HB0
    obtain ⟨c0, c1, c2, c3, c4, c5, c6, c7, c8, c9, c10, c11, c12, c13, c14, c15, c16, c17, c18, c19, c20⟩ := HD2.out.1.cells rfl; dsimp only at c0 c3 c4 c5 c6 c7 c8 c9 c10 c11 c20
    by_cases h0 : st = 0
    · subst h0
      go_wp2
      go_ret
      refine ⟨_, rfl, ?_, HD2.out.2.2⟩
      have e : ([] ++ num7 0) ++ encB (p1, p2) = encX ⟨0, (p1, p2), (v1, v2), ⟨ck, cc, cq, ca, cb, co, cv⟩, [a0, a1, a2, a3, a4, a5, a6, a7], s⟩ := by unfold encX encT; simp
      rw [← e]
      exact HD2.out.2.1
    · have t0 : (st == 0) = false := by simpa using h0
      have H1 := hide (show (([] ++ num7 st) ++ encB (p1, p2)).length ≤ 140737488353500 from by rw [len_two, len_two, List.length_nil]; have := (num7_len st).2; have := encB_len (p1, p2); have := encB_len (v1, v2); have := packC_len ⟨ck, cc, cq, ca, cb, co, cv⟩; have := (encN_len [a0, a1, a2, a3, a4, a5, a6, a7]).2; have : ([a0, a1, a2, a3, a4, a5, a6, a7] : List Int).length = 8 := rfl; have : (flg7 s).length = 1 := rfl; omega)
      have H2 := hide (show ((([] ++ num7 st) ++ encB (p1, p2)) ++ encB (v1, v2)).length ≤ 140737488353500 from by rw [len_two, len_two, len_two, List.length_nil]; have := (num7_len st).2; have := encB_len (p1, p2); have := encB_len (v1, v2); have := packC_len ⟨ck, cc, cq, ca, cb, co, cv⟩; have := (encN_len [a0, a1, a2, a3, a4, a5, a6, a7]).2; have : ([a0, a1, a2, a3, a4, a5, a6, a7] : List Int).length = 8 := rfl; have : (flg7 s).length = 1 := rfl; omega)
      have H3 := hide (show (((([] ++ num7 st) ++ encB (p1, p2)) ++ encB (v1, v2)) ++ packC ⟨ck, cc, cq, ca, cb, co, cv⟩).length ≤ 140737488353500 from by rw [len_two, len_two, len_two, len_two, List.length_nil]; have := (num7_len st).2; have := encB_len (p1, p2); have := encB_len (v1, v2); have := packC_len ⟨ck, cc, cq, ca, cb, co, cv⟩; have := (encN_len [a0, a1, a2, a3, a4, a5, a6, a7]).2; have : ([a0, a1, a2, a3, a4, a5, a6, a7] : List Int).length = 8 := rfl; have : (flg7 s).length = 1 := rfl; omega)
      have H4 := hide (show ((((([] ++ num7 st) ++ encB (p1, p2)) ++ encB (v1, v2)) ++ packC ⟨ck, cc, cq, ca, cb, co, cv⟩) ++ encN [a0, a1, a2, a3, a4, a5, a6, a7]).length ≤ 140737488353500 from by rw [len_two, len_two, len_two, len_two, len_two, List.length_nil]; have := (num7_len st).2; have := encB_len (p1, p2); have := encB_len (v1, v2); have := packC_len ⟨ck, cc, cq, ca, cb, co, cv⟩; have := (encN_len [a0, a1, a2, a3, a4, a5, a6, a7]).2; have : ([a0, a1, a2, a3, a4, a5, a6, a7] : List Int).length = 8 := rfl; have : (flg7 s).length = 1 := rfl; omega)
      have HE := hide (show ((((([] ++ num7 st) ++ encB (p1, p2)) ++ encB (v1, v2)) ++ packC ⟨ck, cc, cq, ca, cb, co, cv⟩) ++ encN [a0, a1, a2, a3, a4, a5, a6, a7]) ++ flg7 s = encX ⟨st, (p1, p2), (v1, v2), ⟨ck, cc, cq, ca, cb, co, cv⟩, [a0, a1, a2, a3, a4, a5, a6, a7], s⟩ from by unfold encX encT; simp [List.append_assoc, h0])
      clear h0
      go_upto_region 7 with (first
        | ((with_reducible refine wpList_load_bal (p := v1) (q := v2) ?_ ?_ HD2.out.1.v ?_); rfl; rfl)
        | (go_at_call 32; (with_reducible refine (pballot_by HD2.out.2.1 H1.out (v1, v2) (small ok.out.v.1.1 ok.out.v.1.2) (small ok.out.v.2.1 (by have := ok.out.v; dsimp only at this; omega)) HD2.out.2.2.size).mono ?_); rintro e w3 ⟨u3, rfl, hy, hb⟩; have HD2 := hide (show CeAt w3 w.heap.size 35 ⟨st, (p1, p2), (v1, v2), ⟨ck, cc, cq, ca, cb, co, cv⟩, [a0, a1, a2, a3, a4, a5, a6, a7], s⟩ ∧ By w.heap.size w3 u3 ((([] ++ num7 st) ++ encB (p1, p2)) ++ encB (v1, v2)) ∧ Below w.heap.size w w3 from ⟨HD2.out.1.kept hb, hy, kept_trans HD2.out.2.2 hb⟩); obtain ⟨c0, c1, c2, c3, c4, c5, c6, c7, c8, c9, c10, c11, c12, c13, c14, c15, c16, c17, c18, c19, c20⟩ := HD2.out.1.cells rfl; dsimp only at c0 c3 c4 c5 c6 c7 c8 c9 c10 c11 c20; clear hy hb))
      go_upto_region 8 with (first
        | ((with_reducible refine wpList_load_cm (y := ⟨ck, cc, cq, ca, cb, co, cv⟩) ?_ ?_ HD2.out.1.c ?_); rfl; rfl)
        | (go_at_call 33; (with_reducible refine (cput_by HD2.out.2.1 (by have := H2.out; omega) ⟨ck, cc, cq, ca, cb, co, cv⟩ HD2.out.2.2.size).mono ?_); rintro e w3 ⟨u3, rfl, hy, hb⟩; have HD2 := hide (show CeAt w3 w.heap.size 35 ⟨st, (p1, p2), (v1, v2), ⟨ck, cc, cq, ca, cb, co, cv⟩, [a0, a1, a2, a3, a4, a5, a6, a7], s⟩ ∧ By w.heap.size w3 u3 (((([] ++ num7 st) ++ encB (p1, p2)) ++ encB (v1, v2)) ++ packC ⟨ck, cc, cq, ca, cb, co, cv⟩) ∧ Below w.heap.size w w3 from ⟨HD2.out.1.kept hb, hy, kept_trans HD2.out.2.2 hb⟩); obtain ⟨c0, c1, c2, c3, c4, c5, c6, c7, c8, c9, c10, c11, c12, c13, c14, c15, c16, c17, c18, c19, c20⟩ := HD2.out.1.cells rfl; dsimp only at c0 c3 c4 c5 c6 c7 c8 c9 c10 c11 c20; clear hy hb))
      go_upto_region 9 with (first
        | ((with_reducible refine wpList_load_at (y := [a0, a1, a2, a3, a4, a5, a6, a7]) rfl ?_ ?_ HD2.out.1.a ?_); rfl; rfl)
        | (go_at_call 34; (with_reducible refine (dput_by (a := [a0, a1, a2, a3, a4, a5, a6, a7]) HD2.out.2.1 (by have := H3.out; omega) rfl HA.out HD2.out.2.2.size).mono ?_); rintro e w3 ⟨u3, rfl, hy, hb⟩; have HD2 := hide (show CeAt w3 w.heap.size 35 ⟨st, (p1, p2), (v1, v2), ⟨ck, cc, cq, ca, cb, co, cv⟩, [a0, a1, a2, a3, a4, a5, a6, a7], s⟩ ∧ By w.heap.size w3 u3 ((((([] ++ num7 st) ++ encB (p1, p2)) ++ encB (v1, v2)) ++ packC ⟨ck, cc, cq, ca, cb, co, cv⟩) ++ encN [a0, a1, a2, a3, a4, a5, a6, a7]) ∧ Below w.heap.size w w3 from ⟨HD2.out.1.kept hb, hy, kept_trans HD2.out.2.2 hb⟩); obtain ⟨c0, c1, c2, c3, c4, c5, c6, c7, c8, c9, c10, c11, c12, c13, c14, c15, c16, c17, c18, c19, c20⟩ := HD2.out.1.cells rfl; dsimp only at c0 c3 c4 c5 c6 c7 c8 c9 c10 c11 c20; clear hy hb))
      go_wp2_with (go_at_call 86; (with_reducible refine (bflag HD2.out.2.1 s (by have := H4.out; omega)).mono ?_); rintro e w3 ⟨u3, rfl, hy, hb⟩; have HD2 := hide (show CeAt w3 w.heap.size 35 ⟨st, (p1, p2), (v1, v2), ⟨ck, cc, cq, ca, cb, co, cv⟩, [a0, a1, a2, a3, a4, a5, a6, a7], s⟩ ∧ By w.heap.size w3 u3 (((((([] ++ num7 st) ++ encB (p1, p2)) ++ encB (v1, v2)) ++ packC ⟨ck, cc, cq, ca, cb, co, cv⟩) ++ encN [a0, a1, a2, a3, a4, a5, a6, a7]) ++ flg7 s) ∧ Below w.heap.size w w3 from ⟨HD2.out.1.kept hb, hy.mono HD2.out.2.2.size, kept_trans HD2.out.2.2 hb⟩); obtain ⟨c0, c1, c2, c3, c4, c5, c6, c7, c8, c9, c10, c11, c12, c13, c14, c15, c16, c17, c18, c19, c20⟩ := HD2.out.1.cells rfl; dsimp only at c0 c3 c4 c5 c6 c7 c8 c9 c10 c11 c20; clear hy hb)
      go_ret
      refine ⟨_, rfl, ?_, HD2.out.2.2⟩
      rw [← HE.out]
      exact HD2.out.2.1
set_option maxHeartbeats 4000000 in
theorem pputcell_any {v : Value} {zs : List Int} {w : World} (hv : Sl w v zs) (hl : zs.length ≤ 140737488353000) (x : Cl) (h8 : x.a.length = 8) :
    Calls Try.prog 19 #[v, .agg (clC x)] w (MadeB w (zs ++ encCl x)) := by
  have HP := hide (fun w => ppacked_any x h8 w)
  have CE := hide (CeAt.new (x := x) h8 w 35)
  have HB := hide ((Below.refl w.heap.size w).alloc (Nat.le_refl _) (.cells (clC x) 35))
  have HV := hide (hv.below HB.out)
  have hle : (encCl x).length ≤ 600 := by
    unfold encCl
    split
    · have := (encX_len h8).2; omega
    · simp
  clear hv
  obtain ⟨A, c, rfl, hz, hA⟩ : ∃ A c, v = .slice A zs.length c ∧ Hid (Lies (w.alloc (.cells (clC x) 35)) A zs) ∧ Hid (A = none → c = 0) := by
    obtain ⟨A, c, e, h1, h2⟩ := HV.out
    exact ⟨A, c, e, h1, h2⟩
  clear HV
  generalize hys : encCl x = ys at HP hle ⊢
  have HYS := hide hys
  clear hys HYS
  obtain ⟨m, hm⟩ : ∃ m, ys.length = m := ⟨_, rfl⟩
  obtain ⟨n, hn⟩ : ∃ n, zs.length = n := ⟨_, rfl⟩
  rw [hm] at hle
  rw [hn] at hl ⊢
  have HM := hide hm
  have HN := hide hn
  clear hm hn
  go_enter Try.func19, Try.ntmps19
  go_upto_region 1 with (fail)
  generalize w.alloc (.cells (clC x) 35) = w1 at CE HB hz ⊢
  go_wp2_with (first
    | ((with_reducible refine wpList_load_ce h8 ?_ ?_ CE.out.all ?_); rfl; rfl)
    | (go_at_call 60; (with_reducible refine (HP.out _).mono ?_); rintro e w2 ⟨u2, rfl, hy, hb⟩; obtain ⟨B, d, rfl, hB, _, hd, hL⟩ := hy.form; have HB1 := hide (kept_trans HB.out hb); have HL := hide hL; have HBn := hide hB; have HZ := hide (hz.out.below hb); clear hb hL hy hd hB; rw [HM.out])
    | (go_at_call 59; (with_reducible refine (concat_lit _ HN.out HM.out HZ.out HL.out hA.out HBn.out (by omega)).mono ?_); rintro e w3 ⟨v2, rfl, ho2, hb2⟩))
  go_ret
  refine ⟨v2, rfl, ?_, kept_trans HB1.out hb2⟩
  have hz2 := ho2.mono HB1.out.size
  rw [← HN.out, ← HM.out, ← List.length_append] at hz2
  exact hz2
end Go.Proofs.Ytlnpfaoeockoiaa
/- The program's Put of letters. Conditions: the lists are as long as they are. -/
namespace Go.Proofs.Ytlnpfaoeockoiaa
set_option maxRecDepth 100000
open Go.RowKit
theorem LAt.i1 {w : World} {b : Nat} {t : TypeId} {m : Lt} (h : LAt w b t m) : w.cell? ⟨b, 3, none⟩ = some (.int .i64 m.i.1) := h.r.cell 3
theorem LAt.i2 {w : World} {b : Nat} {t : TypeId} {m : Lt} (h : LAt w b t m) : w.cell? ⟨b, 4, none⟩ = some (.int .i64 m.i.2) := h.r.cell 4
theorem LAt.ns {w : World} {b : Nat} {t : TypeId} {m : Lt} (h : LAt w b t m) : NsAt w b 43 m.d := ⟨h.r.lt, fun k hk => h.d k _ (cellsR_at m.d hk)⟩
theorem pnums_two {b0 : Nat} {w : World} {v : Value} {zs : List Int} (hv : By b0 w v zs) (x y : Int) (hx : I64 x) (hy : I64 y) (hl : zs.length ≤ 140737488353500) (hb : b0 ≤ w.heap.size) (t : TypeId) :
    Calls Try.prog 31 #[v, .slice (some ⟨w.heap.size, 0, none⟩) 2 2] (w.alloc (.cells #[.int .i64 x, .int .i64 y] t)) (MadeF b0 (w.alloc (.cells #[.int .i64 x, .int .i64 y] t)) (zs ++ encN [x, y])) :=
  pnums_by (w := w.alloc (.cells #[.int .i64 x, .int .i64 y] t)) (hv.below ((Below.refl _ _).alloc (Nat.le_refl _) _)) (c := 2) (ns_lit w [x, y] t rfl) (fun n hn => by simp at hn; rcases hn with rfl | rfl <;> assumption) (show zs.length + 10 * 2 ≤ 140737488354000 by omega) (by simp; omega)
theorem pnums_three {b0 : Nat} {w : World} {v : Value} {zs : List Int} (hv : By b0 w v zs) (x y z : Int) (hx : I64 x) (hy : I64 y) (hz : I64 z) (hl : zs.length ≤ 140737488353500) (hb : b0 ≤ w.heap.size) (t : TypeId) :
    Calls Try.prog 31 #[v, .slice (some ⟨w.heap.size, 0, none⟩) 3 3] (w.alloc (.cells #[.int .i64 x, .int .i64 y, .int .i64 z] t)) (MadeF b0 (w.alloc (.cells #[.int .i64 x, .int .i64 y, .int .i64 z] t)) (zs ++ encN [x, y, z])) :=
  pnums_by (w := w.alloc (.cells #[.int .i64 x, .int .i64 y, .int .i64 z] t)) (hv.below ((Below.refl _ _).alloc (Nat.le_refl _) _)) (c := 3) (ns_lit w [x, y, z] t rfl) (fun n hn => by simp at hn; rcases hn with rfl | rfl | rfl <;> assumption) (show zs.length + 10 * 3 ≤ 140737488354000 by omega) (by simp; omega)
theorem kept_made {w w1 w' : World} (o : Obj) (h : Below w.heap.size w w1) (hb : Below (w1.alloc o).heap.size (w1.alloc o) w') : Below w.heap.size w w' := kept_trans h (kept_trans ((Below.refl _ _).alloc (Nat.le_refl _) _) hb)
theorem kept_lit {w1 w' : World} (o : Obj) (hb : Below (w1.alloc o).heap.size (w1.alloc o) w') : Below w1.heap.size w1 w' := kept_trans ((Below.refl _ _).alloc (Nat.le_refl _) _) hb
/-- The letter's block, the flags' block, the bytes so far. -/
structure Pz (w w' : World) (g : Nat) (cs : Array Value) (m : Lt) (u : Value) (zs : List Int) : Prop where
  m : LAt w' w.heap.size 37 m
  h : Row w' g 67 cs
  y : By w.heap.size w' u zs
  old : Below w.heap.size w w'
theorem Pz.made {w w' w2 : World} {g : Nat} {cs : Array Value} {m : Lt} {u u' : Value} {zs ys : List Int} (s : Pz w w' g cs m u zs) (hb : Below w'.heap.size w' w2) (hy : By w.heap.size w2 u' ys) : Pz w w2 g cs m u' ys :=
  ⟨s.m.kept hb, s.h.below hb s.h.lt, hy, kept_trans s.old hb⟩
set_option maxHeartbeats 16000000 in
theorem pputlt_any (m : Lt) (wf : LtWf m) (w : World) : Calls Try.prog 9 #[.agg (ltC m)] w (MadeB w (encLt m)) := by
  have L0 := hide (LAt.new wf w 37)
  have HB := hide ((Below.refl w.heap.size w).alloc (Nat.le_refl _) (.cells (ltC m) 37))
  have HR := hide (fun w => pright_letter m wf w)
  cases hr : rightLt m
  · simp only [hr] at HR
    have e : encLt m = [] := by unfold encLt; rw [hr]; rfl
    rw [e]
    clear e hr
    go_enter Try.func9, Try.ntmps9
    go_upto_region 1 with (fail)
    generalize w.alloc (.cells (ltC m) 37) = w1 at L0 HB ⊢
    go_wp2_with (first
      | ((with_reducible refine wpList_load_lt wf ?_ ?_ L0.out.all ?_); rfl; rfl)
      | (go_at_call 16; (with_reducible refine (HR.out _).mono ?_); rintro e w2 ⟨rfl, hb⟩; have HB := hide (kept_trans HB.out hb); clear hb))
    go_ret
    exact MadeB.nil_ _ _ HB.out
  · simp only [hr] at HR
    have ok := hide (rightLt_says hr)
    rw [encLt_right hr]
    clear hr
    have HH := hide (fun w => holds_any m.k w)
    have EM := hide (show encM m = ([] ++ encN [m.k, m.f, m.t]) ++ ((if nmI m.k then encB m.i else []) ++ ((if nmB m.k then encB m.b else []) ++ encR m)) from by unfold encM encN; simp)
    have HX := hide (show encCl m.x = encX m.x from by unfold encCl; rw [ok.out.x]; rfl)
    go_enter Try.func9, Try.ntmps9
    go_upto_region 1 with (fail)
    generalize w.alloc (.cells (ltC m) 37) = w1 at L0 HB ⊢
    go_upto_region 3 with (first
      | ((with_reducible refine wpList_load_lt wf ?_ ?_ L0.out.all ?_); rfl; rfl)
      | (go_at_call 16; (with_reducible refine (HR.out _).mono ?_); rintro e w2 ⟨rfl, hb⟩; have HB := hide (kept_trans HB.out hb); have L0 := hide (L0.out.kept hb); clear hb))
    have c0 := L0.out.k1
    go_upto_region 4 with (first
      | (go_at_call 30; (with_reducible refine (HH.out _).mono ?_); rintro e w3 ⟨rfl, hb⟩; have HB := hide (kept_trans HB.out hb); have L0 := hide (L0.out.kept hb); clear hb)
      | ((with_reducible refine wpList_store_new (vs := hC m.k) ?_ ?_ (hC_all _) ?_ ?_ ?_); exact hd_info; rfl; rfl; rfl))
    try simp only [Act.put]
    have HD := hide (show Pz w (w3.alloc (.cells (hC m.k) 67)) w3.heap.size (hC m.k) m (.slice none 0 0) [] from ⟨L0.out.kept ((Below.refl _ _).alloc (Nat.le_refl _) _), Row.new w3 _ _, By.nil_ _ _, HB.out.alloc HB.out.size _⟩)
    clear L0 HB c0 HR HH
    generalize w3.alloc (.cells (hC m.k) 67) = w4 at HD ⊢
    generalize w3.heap.size = g at HD ⊢
    have c0 := HD.out.m.k1
    have c1 := HD.out.m.f1
    have c2 := HD.out.m.t1
    have HC := hide (fun t => pnums_three HD.out.y m.k m.f m.t (by have := ok.out.k; unfold I64; omega) (by have := ok.out.f; unfold I64; omega) (by have := ok.out.t; unfold I64; omega) (by simp) HD.out.old.size t)
    go_upto_region 5 with (go_at_call 31; (with_reducible refine (HC.out _).mono ?_); rintro e w5 ⟨u5, rfl, hy, hb⟩; have HD := hide (HD.out.made (kept_lit _ hb) hy); clear hy hb HC)
    clear c0 c1 c2
    try simp only [Act.put]
    have HL0 := hide (show ([] ++ encN [m.k, m.f, m.t]).length ≤ 100 from by have := (encN_len [m.k, m.f, m.t]).2; simp at this ⊢; omega)
    generalize ([] ++ encN [m.k, m.f, m.t]) = z3 at HD HL0 EM
    obtain hk | hk | hk | hk | hk | hk | hk | hk | hk | hk | hk : m.k = 1 ∨ m.k = 2 ∨ m.k = 3 ∨ m.k = 4 ∨ m.k = 5 ∨ m.k = 6 ∨ m.k = 7 ∨ m.k = 8 ∨ m.k = 9 ∨ m.k = 10 ∨ m.k = 11 := by have := ok.out.k; omega
    · have hc : hC m.k = #[.bool true, .bool true, .bool true, .bool true, .bool false, .bool false, .bool false] := by rw [hk]; rfl
      rw [hc] at HD
      clear hc
      have HK := hide hk
      clear hk
      obtain ⟨f0, f1, f2, f3, f4, f5, f6⟩ := flags7 HD.out.h; have c3 := HD.out.m.i1; have c4 := HD.out.m.i2; have c50 := HD.out.m.z
      obtain ⟨⟨⟨ia, ib⟩, ic, id⟩, ⟨ba, bb⟩, bc, bd⟩ := ok.out.i (by simp [nmI, HK.out])
      have HZ := hide (show (z3).length ≤ 140737488353500 from by have := HL0.out; have := encB_len m.i; have := encB_len m.b; have := packC_len m.c; have := (encN_len m.a).2; have := wf.a; have := (encN_len m.d).2; have := wf.d; have := (encX_len wf.x).2; have : (encN [m.i.1, m.i.2]).length ≤ 20 := by { have := (encN_len [m.i.1, m.i.2]).2; simpa using this }; omega)
      have HC := hide (fun t => pnums_two HD.out.y m.i.1 m.i.2 (small ia (by omega)) (small (by omega) id) HZ.out HD.out.old.size t)
      go_upto_region 7 with (first
        | (go_at_call 31; (with_reducible refine (HC.out _).mono ?_); rintro e w5 ⟨u5, rfl, hy, hb⟩; have HD := hide (HD.out.made (kept_lit _ hb) (hy)); obtain ⟨f0, f1, f2, f3, f4, f5, f6⟩ := flags7 HD.out.h; have c3 := HD.out.m.i1; have c4 := HD.out.m.i2; have c50 := HD.out.m.z; clear hy hb HC))
      clear HZ
      try simp only [Act.put]
      have HZ := hide (show ((z3 ++ encN [m.i.1, m.i.2])).length ≤ 140737488353500 from by simp only [List.length_append]; have := HL0.out; have := encB_len m.i; have := encB_len m.b; have := packC_len m.c; have := (encN_len m.a).2; have := wf.a; have := (encN_len m.d).2; have := wf.d; have := (encX_len wf.x).2; have : (encN [m.i.1, m.i.2]).length ≤ 20 := by { have := (encN_len [m.i.1, m.i.2]).2; simpa using this }; omega)
      have HC := hide (pballot_by HD.out.y HZ.out m.b (small ba bb) (small bc (by omega)) HD.out.old.size)
      go_upto_region 9 with (first
        | ((with_reducible refine wpList_load_bal ?_ ?_ HD.out.m.b1 ?_); rfl; rfl)
        | (go_at_call 32; (with_reducible refine (HC.out).mono ?_); rintro e w5 ⟨u5, rfl, hy, hb⟩; have HD := hide (HD.out.made hb (hy)); obtain ⟨f0, f1, f2, f3, f4, f5, f6⟩ := flags7 HD.out.h; have c3 := HD.out.m.i1; have c4 := HD.out.m.i2; have c50 := HD.out.m.z; clear hy hb HC))
      clear HZ
      try simp only [Act.put]
      have HZ := hide (show (((z3 ++ encN [m.i.1, m.i.2]) ++ encB m.b)).length ≤ 140737488353500 from by simp only [List.length_append]; have := HL0.out; have := encB_len m.i; have := encB_len m.b; have := packC_len m.c; have := (encN_len m.a).2; have := wf.a; have := (encN_len m.d).2; have := wf.d; have := (encX_len wf.x).2; have : (encN [m.i.1, m.i.2]).length ≤ 20 := by { have := (encN_len [m.i.1, m.i.2]).2; simpa using this }; omega)
      have HC := hide (cput_by HD.out.y (by have := HZ.out; omega) m.c HD.out.old.size)
      go_upto_region 11 with (first
        | ((with_reducible refine wpList_load_cm ?_ ?_ HD.out.m.c ?_); rfl; rfl)
        | (go_at_call 33; (with_reducible refine (HC.out).mono ?_); rintro e w5 ⟨u5, rfl, hy, hb⟩; have HD := hide (HD.out.made hb (hy)); obtain ⟨f0, f1, f2, f3, f4, f5, f6⟩ := flags7 HD.out.h; have c3 := HD.out.m.i1; have c4 := HD.out.m.i2; have c50 := HD.out.m.z; clear hy hb HC))
      clear HZ
      try simp only [Act.put]
      have HZ := hide (show ((((z3 ++ encN [m.i.1, m.i.2]) ++ encB m.b) ++ packC m.c)).length ≤ 140737488353500 from by simp only [List.length_append]; have := HL0.out; have := encB_len m.i; have := encB_len m.b; have := packC_len m.c; have := (encN_len m.a).2; have := wf.a; have := (encN_len m.d).2; have := wf.d; have := (encX_len wf.x).2; have : (encN [m.i.1, m.i.2]).length ≤ 20 := by { have := (encN_len [m.i.1, m.i.2]).2; simpa using this }; omega)
      have HC := hide (dput_by HD.out.y (by have := HZ.out; omega) wf.a (rightAl_says ok.out.a wf.a) HD.out.old.size)
      go_upto_region 13 with (first
        | ((with_reducible refine wpList_load_at wf.a ?_ ?_ HD.out.m.a ?_); rfl; rfl)
        | (go_at_call 34; (with_reducible refine (HC.out).mono ?_); rintro e w5 ⟨u5, rfl, hy, hb⟩; have HD := hide (HD.out.made hb (hy)); obtain ⟨f0, f1, f2, f3, f4, f5, f6⟩ := flags7 HD.out.h; have c3 := HD.out.m.i1; have c4 := HD.out.m.i2; have c50 := HD.out.m.z; clear hy hb HC))
      clear HZ
      try simp only [Act.put]
      go_wp2
      go_ret
      refine ⟨_, rfl, ?_, HD.out.old⟩
      have e : encM m = ((((z3 ++ encN [m.i.1, m.i.2]) ++ encB m.b) ++ packC m.c) ++ encN m.a) := by rw [EM.out]; unfold encR; simp [nmI, nmB, nmC, nmA, nmX, nmD, nmZ, HK.out, encN_two, List.append_assoc]
      rw [e]
      exact HD.out.y
    · have hc : hC m.k = #[.bool true, .bool true, .bool false, .bool true, .bool false, .bool false, .bool false] := by rw [hk]; rfl
      rw [hc] at HD
      clear hc
      have HK := hide hk
      clear hk
      obtain ⟨f0, f1, f2, f3, f4, f5, f6⟩ := flags7 HD.out.h; have c3 := HD.out.m.i1; have c4 := HD.out.m.i2; have c50 := HD.out.m.z
      obtain ⟨⟨⟨ia, ib⟩, ic, id⟩, ⟨ba, bb⟩, bc, bd⟩ := ok.out.i (by simp [nmI, HK.out])
      have HZ := hide (show (z3).length ≤ 140737488353500 from by have := HL0.out; have := encB_len m.i; have := encB_len m.b; have := packC_len m.c; have := (encN_len m.a).2; have := wf.a; have := (encN_len m.d).2; have := wf.d; have := (encX_len wf.x).2; have : (encN [m.i.1, m.i.2]).length ≤ 20 := by { have := (encN_len [m.i.1, m.i.2]).2; simpa using this }; omega)
      have HC := hide (fun t => pnums_two HD.out.y m.i.1 m.i.2 (small ia (by omega)) (small (by omega) id) HZ.out HD.out.old.size t)
      go_upto_region 7 with (first
        | (go_at_call 31; (with_reducible refine (HC.out _).mono ?_); rintro e w5 ⟨u5, rfl, hy, hb⟩; have HD := hide (HD.out.made (kept_lit _ hb) (hy)); obtain ⟨f0, f1, f2, f3, f4, f5, f6⟩ := flags7 HD.out.h; have c3 := HD.out.m.i1; have c4 := HD.out.m.i2; have c50 := HD.out.m.z; clear hy hb HC))
      clear HZ
      try simp only [Act.put]
      have HZ := hide (show ((z3 ++ encN [m.i.1, m.i.2])).length ≤ 140737488353500 from by simp only [List.length_append]; have := HL0.out; have := encB_len m.i; have := encB_len m.b; have := packC_len m.c; have := (encN_len m.a).2; have := wf.a; have := (encN_len m.d).2; have := wf.d; have := (encX_len wf.x).2; have : (encN [m.i.1, m.i.2]).length ≤ 20 := by { have := (encN_len [m.i.1, m.i.2]).2; simpa using this }; omega)
      have HC := hide (pballot_by HD.out.y HZ.out m.b (small ba bb) (small bc (by omega)) HD.out.old.size)
      go_upto_region 9 with (first
        | ((with_reducible refine wpList_load_bal ?_ ?_ HD.out.m.b1 ?_); rfl; rfl)
        | (go_at_call 32; (with_reducible refine (HC.out).mono ?_); rintro e w5 ⟨u5, rfl, hy, hb⟩; have HD := hide (HD.out.made hb (hy)); obtain ⟨f0, f1, f2, f3, f4, f5, f6⟩ := flags7 HD.out.h; have c3 := HD.out.m.i1; have c4 := HD.out.m.i2; have c50 := HD.out.m.z; clear hy hb HC))
      clear HZ
      try simp only [Act.put]
      have HZ := hide (show (((z3 ++ encN [m.i.1, m.i.2]) ++ encB m.b)).length ≤ 140737488353500 from by simp only [List.length_append]; have := HL0.out; have := encB_len m.i; have := encB_len m.b; have := packC_len m.c; have := (encN_len m.a).2; have := wf.a; have := (encN_len m.d).2; have := wf.d; have := (encX_len wf.x).2; have : (encN [m.i.1, m.i.2]).length ≤ 20 := by { have := (encN_len [m.i.1, m.i.2]).2; simpa using this }; omega)
      have HC := hide (dput_by HD.out.y (by have := HZ.out; omega) wf.a (rightAl_says ok.out.a wf.a) HD.out.old.size)
      go_upto_region 13 with (first
        | ((with_reducible refine wpList_load_at wf.a ?_ ?_ HD.out.m.a ?_); rfl; rfl)
        | (go_at_call 34; (with_reducible refine (HC.out).mono ?_); rintro e w5 ⟨u5, rfl, hy, hb⟩; have HD := hide (HD.out.made hb (hy)); obtain ⟨f0, f1, f2, f3, f4, f5, f6⟩ := flags7 HD.out.h; have c3 := HD.out.m.i1; have c4 := HD.out.m.i2; have c50 := HD.out.m.z; clear hy hb HC))
      clear HZ
      try simp only [Act.put]
      go_wp2
      go_ret
      refine ⟨_, rfl, ?_, HD.out.old⟩
      have e : encM m = (((z3 ++ encN [m.i.1, m.i.2]) ++ encB m.b) ++ encN m.a) := by rw [EM.out]; unfold encR; simp [nmI, nmB, nmC, nmA, nmX, nmD, nmZ, HK.out, encN_two, List.append_assoc]
      rw [e]
      exact HD.out.y
    · have hc : hC m.k = #[.bool true, .bool true, .bool true, .bool true, .bool false, .bool false, .bool false] := by rw [hk]; rfl
      rw [hc] at HD
      clear hc
      have HK := hide hk
      clear hk
      obtain ⟨f0, f1, f2, f3, f4, f5, f6⟩ := flags7 HD.out.h; have c3 := HD.out.m.i1; have c4 := HD.out.m.i2; have c50 := HD.out.m.z
      obtain ⟨⟨⟨ia, ib⟩, ic, id⟩, ⟨ba, bb⟩, bc, bd⟩ := ok.out.i (by simp [nmI, HK.out])
      have HZ := hide (show (z3).length ≤ 140737488353500 from by have := HL0.out; have := encB_len m.i; have := encB_len m.b; have := packC_len m.c; have := (encN_len m.a).2; have := wf.a; have := (encN_len m.d).2; have := wf.d; have := (encX_len wf.x).2; have : (encN [m.i.1, m.i.2]).length ≤ 20 := by { have := (encN_len [m.i.1, m.i.2]).2; simpa using this }; omega)
      have HC := hide (fun t => pnums_two HD.out.y m.i.1 m.i.2 (small ia (by omega)) (small (by omega) id) HZ.out HD.out.old.size t)
      go_upto_region 7 with (first
        | (go_at_call 31; (with_reducible refine (HC.out _).mono ?_); rintro e w5 ⟨u5, rfl, hy, hb⟩; have HD := hide (HD.out.made (kept_lit _ hb) (hy)); obtain ⟨f0, f1, f2, f3, f4, f5, f6⟩ := flags7 HD.out.h; have c3 := HD.out.m.i1; have c4 := HD.out.m.i2; have c50 := HD.out.m.z; clear hy hb HC))
      clear HZ
      try simp only [Act.put]
      have HZ := hide (show ((z3 ++ encN [m.i.1, m.i.2])).length ≤ 140737488353500 from by simp only [List.length_append]; have := HL0.out; have := encB_len m.i; have := encB_len m.b; have := packC_len m.c; have := (encN_len m.a).2; have := wf.a; have := (encN_len m.d).2; have := wf.d; have := (encX_len wf.x).2; have : (encN [m.i.1, m.i.2]).length ≤ 20 := by { have := (encN_len [m.i.1, m.i.2]).2; simpa using this }; omega)
      have HC := hide (pballot_by HD.out.y HZ.out m.b (small ba bb) (small bc (by omega)) HD.out.old.size)
      go_upto_region 9 with (first
        | ((with_reducible refine wpList_load_bal ?_ ?_ HD.out.m.b1 ?_); rfl; rfl)
        | (go_at_call 32; (with_reducible refine (HC.out).mono ?_); rintro e w5 ⟨u5, rfl, hy, hb⟩; have HD := hide (HD.out.made hb (hy)); obtain ⟨f0, f1, f2, f3, f4, f5, f6⟩ := flags7 HD.out.h; have c3 := HD.out.m.i1; have c4 := HD.out.m.i2; have c50 := HD.out.m.z; clear hy hb HC))
      clear HZ
      try simp only [Act.put]
      have HZ := hide (show (((z3 ++ encN [m.i.1, m.i.2]) ++ encB m.b)).length ≤ 140737488353500 from by simp only [List.length_append]; have := HL0.out; have := encB_len m.i; have := encB_len m.b; have := packC_len m.c; have := (encN_len m.a).2; have := wf.a; have := (encN_len m.d).2; have := wf.d; have := (encX_len wf.x).2; have : (encN [m.i.1, m.i.2]).length ≤ 20 := by { have := (encN_len [m.i.1, m.i.2]).2; simpa using this }; omega)
      have HC := hide (cput_by HD.out.y (by have := HZ.out; omega) m.c HD.out.old.size)
      go_upto_region 11 with (first
        | ((with_reducible refine wpList_load_cm ?_ ?_ HD.out.m.c ?_); rfl; rfl)
        | (go_at_call 33; (with_reducible refine (HC.out).mono ?_); rintro e w5 ⟨u5, rfl, hy, hb⟩; have HD := hide (HD.out.made hb (hy)); obtain ⟨f0, f1, f2, f3, f4, f5, f6⟩ := flags7 HD.out.h; have c3 := HD.out.m.i1; have c4 := HD.out.m.i2; have c50 := HD.out.m.z; clear hy hb HC))
      clear HZ
      try simp only [Act.put]
      have HZ := hide (show ((((z3 ++ encN [m.i.1, m.i.2]) ++ encB m.b) ++ packC m.c)).length ≤ 140737488353500 from by simp only [List.length_append]; have := HL0.out; have := encB_len m.i; have := encB_len m.b; have := packC_len m.c; have := (encN_len m.a).2; have := wf.a; have := (encN_len m.d).2; have := wf.d; have := (encX_len wf.x).2; have : (encN [m.i.1, m.i.2]).length ≤ 20 := by { have := (encN_len [m.i.1, m.i.2]).2; simpa using this }; omega)
      have HC := hide (dput_by HD.out.y (by have := HZ.out; omega) wf.a (rightAl_says ok.out.a wf.a) HD.out.old.size)
      go_upto_region 13 with (first
        | ((with_reducible refine wpList_load_at wf.a ?_ ?_ HD.out.m.a ?_); rfl; rfl)
        | (go_at_call 34; (with_reducible refine (HC.out).mono ?_); rintro e w5 ⟨u5, rfl, hy, hb⟩; have HD := hide (HD.out.made hb (hy)); obtain ⟨f0, f1, f2, f3, f4, f5, f6⟩ := flags7 HD.out.h; have c3 := HD.out.m.i1; have c4 := HD.out.m.i2; have c50 := HD.out.m.z; clear hy hb HC))
      clear HZ
      try simp only [Act.put]
      go_wp2
      go_ret
      refine ⟨_, rfl, ?_, HD.out.old⟩
      have e : encM m = ((((z3 ++ encN [m.i.1, m.i.2]) ++ encB m.b) ++ packC m.c) ++ encN m.a) := by rw [EM.out]; unfold encR; simp [nmI, nmB, nmC, nmA, nmX, nmD, nmZ, HK.out, encN_two, List.append_assoc]
      rw [e]
      exact HD.out.y
    · have hc : hC m.k = #[.bool true, .bool true, .bool false, .bool false, .bool false, .bool false, .bool false] := by rw [hk]; rfl
      rw [hc] at HD
      clear hc
      have HK := hide hk
      clear hk
      obtain ⟨f0, f1, f2, f3, f4, f5, f6⟩ := flags7 HD.out.h; have c3 := HD.out.m.i1; have c4 := HD.out.m.i2; have c50 := HD.out.m.z
      obtain ⟨⟨⟨ia, ib⟩, ic, id⟩, ⟨ba, bb⟩, bc, bd⟩ := ok.out.i (by simp [nmI, HK.out])
      have HZ := hide (show (z3).length ≤ 140737488353500 from by have := HL0.out; have := encB_len m.i; have := encB_len m.b; have := packC_len m.c; have := (encN_len m.a).2; have := wf.a; have := (encN_len m.d).2; have := wf.d; have := (encX_len wf.x).2; have : (encN [m.i.1, m.i.2]).length ≤ 20 := by { have := (encN_len [m.i.1, m.i.2]).2; simpa using this }; omega)
      have HC := hide (fun t => pnums_two HD.out.y m.i.1 m.i.2 (small ia (by omega)) (small (by omega) id) HZ.out HD.out.old.size t)
      go_upto_region 7 with (first
        | (go_at_call 31; (with_reducible refine (HC.out _).mono ?_); rintro e w5 ⟨u5, rfl, hy, hb⟩; have HD := hide (HD.out.made (kept_lit _ hb) (hy)); obtain ⟨f0, f1, f2, f3, f4, f5, f6⟩ := flags7 HD.out.h; have c3 := HD.out.m.i1; have c4 := HD.out.m.i2; have c50 := HD.out.m.z; clear hy hb HC))
      clear HZ
      try simp only [Act.put]
      have HZ := hide (show ((z3 ++ encN [m.i.1, m.i.2])).length ≤ 140737488353500 from by simp only [List.length_append]; have := HL0.out; have := encB_len m.i; have := encB_len m.b; have := packC_len m.c; have := (encN_len m.a).2; have := wf.a; have := (encN_len m.d).2; have := wf.d; have := (encX_len wf.x).2; have : (encN [m.i.1, m.i.2]).length ≤ 20 := by { have := (encN_len [m.i.1, m.i.2]).2; simpa using this }; omega)
      have HC := hide (pballot_by HD.out.y HZ.out m.b (small ba bb) (small bc (by omega)) HD.out.old.size)
      go_upto_region 9 with (first
        | ((with_reducible refine wpList_load_bal ?_ ?_ HD.out.m.b1 ?_); rfl; rfl)
        | (go_at_call 32; (with_reducible refine (HC.out).mono ?_); rintro e w5 ⟨u5, rfl, hy, hb⟩; have HD := hide (HD.out.made hb (hy)); obtain ⟨f0, f1, f2, f3, f4, f5, f6⟩ := flags7 HD.out.h; have c3 := HD.out.m.i1; have c4 := HD.out.m.i2; have c50 := HD.out.m.z; clear hy hb HC))
      clear HZ
      try simp only [Act.put]
      go_wp2
      go_ret
      refine ⟨_, rfl, ?_, HD.out.old⟩
      have e : encM m = ((z3 ++ encN [m.i.1, m.i.2]) ++ encB m.b) := by rw [EM.out]; unfold encR; simp [nmI, nmB, nmC, nmA, nmX, nmD, nmZ, HK.out, encN_two, List.append_assoc]
      rw [e]
      exact HD.out.y
    · have hc : hC m.k = #[.bool true, .bool false, .bool true, .bool true, .bool false, .bool false, .bool false] := by rw [hk]; rfl
      rw [hc] at HD
      clear hc
      have HK := hide hk
      clear hk
      obtain ⟨f0, f1, f2, f3, f4, f5, f6⟩ := flags7 HD.out.h; have c3 := HD.out.m.i1; have c4 := HD.out.m.i2; have c50 := HD.out.m.z
      obtain ⟨⟨⟨ia, ib⟩, ic, id⟩, ⟨ba, bb⟩, bc, bd⟩ := ok.out.i (by simp [nmI, HK.out])
      have HZ := hide (show (z3).length ≤ 140737488353500 from by have := HL0.out; have := encB_len m.i; have := encB_len m.b; have := packC_len m.c; have := (encN_len m.a).2; have := wf.a; have := (encN_len m.d).2; have := wf.d; have := (encX_len wf.x).2; have : (encN [m.i.1, m.i.2]).length ≤ 20 := by { have := (encN_len [m.i.1, m.i.2]).2; simpa using this }; omega)
      have HC := hide (fun t => pnums_two HD.out.y m.i.1 m.i.2 (small ia (by omega)) (small (by omega) id) HZ.out HD.out.old.size t)
      go_upto_region 7 with (first
        | (go_at_call 31; (with_reducible refine (HC.out _).mono ?_); rintro e w5 ⟨u5, rfl, hy, hb⟩; have HD := hide (HD.out.made (kept_lit _ hb) (hy)); obtain ⟨f0, f1, f2, f3, f4, f5, f6⟩ := flags7 HD.out.h; have c3 := HD.out.m.i1; have c4 := HD.out.m.i2; have c50 := HD.out.m.z; clear hy hb HC))
      clear HZ
      try simp only [Act.put]
      have HZ := hide (show ((z3 ++ encN [m.i.1, m.i.2])).length ≤ 140737488353500 from by simp only [List.length_append]; have := HL0.out; have := encB_len m.i; have := encB_len m.b; have := packC_len m.c; have := (encN_len m.a).2; have := wf.a; have := (encN_len m.d).2; have := wf.d; have := (encX_len wf.x).2; have : (encN [m.i.1, m.i.2]).length ≤ 20 := by { have := (encN_len [m.i.1, m.i.2]).2; simpa using this }; omega)
      have HC := hide (cput_by HD.out.y (by have := HZ.out; omega) m.c HD.out.old.size)
      go_upto_region 11 with (first
        | ((with_reducible refine wpList_load_cm ?_ ?_ HD.out.m.c ?_); rfl; rfl)
        | (go_at_call 33; (with_reducible refine (HC.out).mono ?_); rintro e w5 ⟨u5, rfl, hy, hb⟩; have HD := hide (HD.out.made hb (hy)); obtain ⟨f0, f1, f2, f3, f4, f5, f6⟩ := flags7 HD.out.h; have c3 := HD.out.m.i1; have c4 := HD.out.m.i2; have c50 := HD.out.m.z; clear hy hb HC))
      clear HZ
      try simp only [Act.put]
      have HZ := hide (show (((z3 ++ encN [m.i.1, m.i.2]) ++ packC m.c)).length ≤ 140737488353500 from by simp only [List.length_append]; have := HL0.out; have := encB_len m.i; have := encB_len m.b; have := packC_len m.c; have := (encN_len m.a).2; have := wf.a; have := (encN_len m.d).2; have := wf.d; have := (encX_len wf.x).2; have : (encN [m.i.1, m.i.2]).length ≤ 20 := by { have := (encN_len [m.i.1, m.i.2]).2; simpa using this }; omega)
      have HC := hide (dput_by HD.out.y (by have := HZ.out; omega) wf.a (rightAl_says ok.out.a wf.a) HD.out.old.size)
      go_upto_region 13 with (first
        | ((with_reducible refine wpList_load_at wf.a ?_ ?_ HD.out.m.a ?_); rfl; rfl)
        | (go_at_call 34; (with_reducible refine (HC.out).mono ?_); rintro e w5 ⟨u5, rfl, hy, hb⟩; have HD := hide (HD.out.made hb (hy)); obtain ⟨f0, f1, f2, f3, f4, f5, f6⟩ := flags7 HD.out.h; have c3 := HD.out.m.i1; have c4 := HD.out.m.i2; have c50 := HD.out.m.z; clear hy hb HC))
      clear HZ
      try simp only [Act.put]
      go_wp2
      go_ret
      refine ⟨_, rfl, ?_, HD.out.old⟩
      have e : encM m = (((z3 ++ encN [m.i.1, m.i.2]) ++ packC m.c) ++ encN m.a) := by rw [EM.out]; unfold encR; simp [nmI, nmB, nmC, nmA, nmX, nmD, nmZ, HK.out, encN_two, List.append_assoc]
      rw [e]
      exact HD.out.y
    · have hc : hC m.k = #[.bool true, .bool true, .bool false, .bool false, .bool false, .bool false, .bool false] := by rw [hk]; rfl
      rw [hc] at HD
      clear hc
      have HK := hide hk
      clear hk
      obtain ⟨f0, f1, f2, f3, f4, f5, f6⟩ := flags7 HD.out.h; have c3 := HD.out.m.i1; have c4 := HD.out.m.i2; have c50 := HD.out.m.z
      obtain ⟨⟨⟨ia, ib⟩, ic, id⟩, ⟨ba, bb⟩, bc, bd⟩ := ok.out.i (by simp [nmI, HK.out])
      have HZ := hide (show (z3).length ≤ 140737488353500 from by have := HL0.out; have := encB_len m.i; have := encB_len m.b; have := packC_len m.c; have := (encN_len m.a).2; have := wf.a; have := (encN_len m.d).2; have := wf.d; have := (encX_len wf.x).2; have : (encN [m.i.1, m.i.2]).length ≤ 20 := by { have := (encN_len [m.i.1, m.i.2]).2; simpa using this }; omega)
      have HC := hide (fun t => pnums_two HD.out.y m.i.1 m.i.2 (small ia (by omega)) (small (by omega) id) HZ.out HD.out.old.size t)
      go_upto_region 7 with (first
        | (go_at_call 31; (with_reducible refine (HC.out _).mono ?_); rintro e w5 ⟨u5, rfl, hy, hb⟩; have HD := hide (HD.out.made (kept_lit _ hb) (hy)); obtain ⟨f0, f1, f2, f3, f4, f5, f6⟩ := flags7 HD.out.h; have c3 := HD.out.m.i1; have c4 := HD.out.m.i2; have c50 := HD.out.m.z; clear hy hb HC))
      clear HZ
      try simp only [Act.put]
      have HZ := hide (show ((z3 ++ encN [m.i.1, m.i.2])).length ≤ 140737488353500 from by simp only [List.length_append]; have := HL0.out; have := encB_len m.i; have := encB_len m.b; have := packC_len m.c; have := (encN_len m.a).2; have := wf.a; have := (encN_len m.d).2; have := wf.d; have := (encX_len wf.x).2; have : (encN [m.i.1, m.i.2]).length ≤ 20 := by { have := (encN_len [m.i.1, m.i.2]).2; simpa using this }; omega)
      have HC := hide (pballot_by HD.out.y HZ.out m.b (small ba bb) (small bc (by omega)) HD.out.old.size)
      go_upto_region 9 with (first
        | ((with_reducible refine wpList_load_bal ?_ ?_ HD.out.m.b1 ?_); rfl; rfl)
        | (go_at_call 32; (with_reducible refine (HC.out).mono ?_); rintro e w5 ⟨u5, rfl, hy, hb⟩; have HD := hide (HD.out.made hb (hy)); obtain ⟨f0, f1, f2, f3, f4, f5, f6⟩ := flags7 HD.out.h; have c3 := HD.out.m.i1; have c4 := HD.out.m.i2; have c50 := HD.out.m.z; clear hy hb HC))
      clear HZ
      try simp only [Act.put]
      go_wp2
      go_ret
      refine ⟨_, rfl, ?_, HD.out.old⟩
      have e : encM m = ((z3 ++ encN [m.i.1, m.i.2]) ++ encB m.b) := by rw [EM.out]; unfold encR; simp [nmI, nmB, nmC, nmA, nmX, nmD, nmZ, HK.out, encN_two, List.append_assoc]
      rw [e]
      exact HD.out.y
    · have hc : hC m.k = #[.bool true, .bool true, .bool false, .bool false, .bool true, .bool false, .bool false] := by rw [hk]; rfl
      rw [hc] at HD
      clear hc
      have HK := hide hk
      clear hk
      obtain ⟨f0, f1, f2, f3, f4, f5, f6⟩ := flags7 HD.out.h; have c3 := HD.out.m.i1; have c4 := HD.out.m.i2; have c50 := HD.out.m.z
      obtain ⟨⟨⟨ia, ib⟩, ic, id⟩, ⟨ba, bb⟩, bc, bd⟩ := ok.out.i (by simp [nmI, HK.out])
      have HZ := hide (show (z3).length ≤ 140737488353500 from by have := HL0.out; have := encB_len m.i; have := encB_len m.b; have := packC_len m.c; have := (encN_len m.a).2; have := wf.a; have := (encN_len m.d).2; have := wf.d; have := (encX_len wf.x).2; have : (encN [m.i.1, m.i.2]).length ≤ 20 := by { have := (encN_len [m.i.1, m.i.2]).2; simpa using this }; omega)
      have HC := hide (fun t => pnums_two HD.out.y m.i.1 m.i.2 (small ia (by omega)) (small (by omega) id) HZ.out HD.out.old.size t)
      go_upto_region 7 with (first
        | (go_at_call 31; (with_reducible refine (HC.out _).mono ?_); rintro e w5 ⟨u5, rfl, hy, hb⟩; have HD := hide (HD.out.made (kept_lit _ hb) (hy)); obtain ⟨f0, f1, f2, f3, f4, f5, f6⟩ := flags7 HD.out.h; have c3 := HD.out.m.i1; have c4 := HD.out.m.i2; have c50 := HD.out.m.z; clear hy hb HC))
      clear HZ
      try simp only [Act.put]
      have HZ := hide (show ((z3 ++ encN [m.i.1, m.i.2])).length ≤ 140737488353500 from by simp only [List.length_append]; have := HL0.out; have := encB_len m.i; have := encB_len m.b; have := packC_len m.c; have := (encN_len m.a).2; have := wf.a; have := (encN_len m.d).2; have := wf.d; have := (encX_len wf.x).2; have : (encN [m.i.1, m.i.2]).length ≤ 20 := by { have := (encN_len [m.i.1, m.i.2]).2; simpa using this }; omega)
      have HC := hide (pballot_by HD.out.y HZ.out m.b (small ba bb) (small bc (by omega)) HD.out.old.size)
      go_upto_region 9 with (first
        | ((with_reducible refine wpList_load_bal ?_ ?_ HD.out.m.b1 ?_); rfl; rfl)
        | (go_at_call 32; (with_reducible refine (HC.out).mono ?_); rintro e w5 ⟨u5, rfl, hy, hb⟩; have HD := hide (HD.out.made hb (hy)); obtain ⟨f0, f1, f2, f3, f4, f5, f6⟩ := flags7 HD.out.h; have c3 := HD.out.m.i1; have c4 := HD.out.m.i2; have c50 := HD.out.m.z; clear hy hb HC))
      clear HZ
      try simp only [Act.put]
      have HZ := hide (show (((z3 ++ encN [m.i.1, m.i.2]) ++ encB m.b)).length ≤ 140737488353500 from by simp only [List.length_append]; have := HL0.out; have := encB_len m.i; have := encB_len m.b; have := packC_len m.c; have := (encN_len m.a).2; have := wf.a; have := (encN_len m.d).2; have := wf.d; have := (encX_len wf.x).2; have : (encN [m.i.1, m.i.2]).length ≤ 20 := by { have := (encN_len [m.i.1, m.i.2]).2; simpa using this }; omega)
      have HC := hide (pputcell_any HD.out.y.sl (by have := HZ.out; simp only [List.length_append] at this ⊢; have := HL0.out; have := encB_len m.i; have := encB_len m.b; have := packC_len m.c; have := (encN_len m.a).2; have := wf.a; have := (encN_len m.d).2; have := wf.d; have := (encX_len wf.x).2; have : (encN [m.i.1, m.i.2]).length ≤ 20 := by { have := (encN_len [m.i.1, m.i.2]).2; simpa using this }; omega) m.x wf.x)
      rw [HX.out] at HC
      go_upto_region 15 with (first
        | ((with_reducible refine wpList_load_ce wf.x ?_ ?_ HD.out.m.x ?_); rfl; rfl)
        | (go_at_call 19; (with_reducible refine (HC.out).mono ?_); rintro e w5 ⟨u5, rfl, hy, hb⟩; have HD := hide (HD.out.made hb (hy.mono HD.out.old.size)); obtain ⟨f0, f1, f2, f3, f4, f5, f6⟩ := flags7 HD.out.h; have c3 := HD.out.m.i1; have c4 := HD.out.m.i2; have c50 := HD.out.m.z; clear hy hb HC))
      clear HZ
      try simp only [Act.put]
      go_wp2
      go_ret
      refine ⟨_, rfl, ?_, HD.out.old⟩
      have e : encM m = (((z3 ++ encN [m.i.1, m.i.2]) ++ encB m.b) ++ encX m.x) := by rw [EM.out]; unfold encR; simp [nmI, nmB, nmC, nmA, nmX, nmD, nmZ, HK.out, encN_two, List.append_assoc]
      rw [e]
      exact HD.out.y
    · have hc : hC m.k = #[.bool true, .bool true, .bool false, .bool false, .bool false, .bool false, .bool false] := by rw [hk]; rfl
      rw [hc] at HD
      clear hc
      have HK := hide hk
      clear hk
      obtain ⟨f0, f1, f2, f3, f4, f5, f6⟩ := flags7 HD.out.h; have c3 := HD.out.m.i1; have c4 := HD.out.m.i2; have c50 := HD.out.m.z
      obtain ⟨⟨⟨ia, ib⟩, ic, id⟩, ⟨ba, bb⟩, bc, bd⟩ := ok.out.i (by simp [nmI, HK.out])
      have HZ := hide (show (z3).length ≤ 140737488353500 from by have := HL0.out; have := encB_len m.i; have := encB_len m.b; have := packC_len m.c; have := (encN_len m.a).2; have := wf.a; have := (encN_len m.d).2; have := wf.d; have := (encX_len wf.x).2; have : (encN [m.i.1, m.i.2]).length ≤ 20 := by { have := (encN_len [m.i.1, m.i.2]).2; simpa using this }; omega)
      have HC := hide (fun t => pnums_two HD.out.y m.i.1 m.i.2 (small ia (by omega)) (small (by omega) id) HZ.out HD.out.old.size t)
      go_upto_region 7 with (first
        | (go_at_call 31; (with_reducible refine (HC.out _).mono ?_); rintro e w5 ⟨u5, rfl, hy, hb⟩; have HD := hide (HD.out.made (kept_lit _ hb) (hy)); obtain ⟨f0, f1, f2, f3, f4, f5, f6⟩ := flags7 HD.out.h; have c3 := HD.out.m.i1; have c4 := HD.out.m.i2; have c50 := HD.out.m.z; clear hy hb HC))
      clear HZ
      try simp only [Act.put]
      have HZ := hide (show ((z3 ++ encN [m.i.1, m.i.2])).length ≤ 140737488353500 from by simp only [List.length_append]; have := HL0.out; have := encB_len m.i; have := encB_len m.b; have := packC_len m.c; have := (encN_len m.a).2; have := wf.a; have := (encN_len m.d).2; have := wf.d; have := (encX_len wf.x).2; have : (encN [m.i.1, m.i.2]).length ≤ 20 := by { have := (encN_len [m.i.1, m.i.2]).2; simpa using this }; omega)
      have HC := hide (pballot_by HD.out.y HZ.out m.b (small ba bb) (small bc (by omega)) HD.out.old.size)
      go_upto_region 9 with (first
        | ((with_reducible refine wpList_load_bal ?_ ?_ HD.out.m.b1 ?_); rfl; rfl)
        | (go_at_call 32; (with_reducible refine (HC.out).mono ?_); rintro e w5 ⟨u5, rfl, hy, hb⟩; have HD := hide (HD.out.made hb (hy)); obtain ⟨f0, f1, f2, f3, f4, f5, f6⟩ := flags7 HD.out.h; have c3 := HD.out.m.i1; have c4 := HD.out.m.i2; have c50 := HD.out.m.z; clear hy hb HC))
      clear HZ
      try simp only [Act.put]
      go_wp2
      go_ret
      refine ⟨_, rfl, ?_, HD.out.old⟩
      have e : encM m = ((z3 ++ encN [m.i.1, m.i.2]) ++ encB m.b) := by rw [EM.out]; unfold encR; simp [nmI, nmB, nmC, nmA, nmX, nmD, nmZ, HK.out, encN_two, List.append_assoc]
      rw [e]
      exact HD.out.y
    · have hc : hC m.k = #[.bool false, .bool false, .bool false, .bool false, .bool false, .bool true, .bool false] := by rw [hk]; rfl
      rw [hc] at HD
      clear hc
      have HK := hide hk
      clear hk
      obtain ⟨f0, f1, f2, f3, f4, f5, f6⟩ := flags7 HD.out.h; have c3 := HD.out.m.i1; have c4 := HD.out.m.i2; have c50 := HD.out.m.z
      have HZ := hide (show (z3).length ≤ 140737488353500 from by have := HL0.out; have := encB_len m.i; have := encB_len m.b; have := packC_len m.c; have := (encN_len m.a).2; have := wf.a; have := (encN_len m.d).2; have := wf.d; have := (encX_len wf.x).2; have : (encN [m.i.1, m.i.2]).length ≤ 20 := by { have := (encN_len [m.i.1, m.i.2]).2; simpa using this }; omega)
      have HC := hide (pnums_by (c := 7) HD.out.y HD.out.m.ns (fun n hn => by have := rightD_says ok.out.d wf.d n hn; unfold I64; omega) (by have := wf.d; have := HZ.out; omega) HD.out.old.size)
      rw [wf.d] at HC
      go_upto_region 17 with (first
        | (go_at_call 31; (with_reducible refine (HC.out).mono ?_); rintro e w5 ⟨u5, rfl, hy, hb⟩; have HD := hide (HD.out.made hb (hy)); obtain ⟨f0, f1, f2, f3, f4, f5, f6⟩ := flags7 HD.out.h; have c3 := HD.out.m.i1; have c4 := HD.out.m.i2; have c50 := HD.out.m.z; clear hy hb HC))
      clear HZ
      try simp only [Act.put]
      go_wp2
      go_ret
      refine ⟨_, rfl, ?_, HD.out.old⟩
      have e : encM m = (z3 ++ encN m.d) := by rw [EM.out]; unfold encR; simp [nmI, nmB, nmC, nmA, nmX, nmD, nmZ, HK.out]
      rw [e]
      exact HD.out.y
    · have hc : hC m.k = #[.bool false, .bool false, .bool false, .bool false, .bool false, .bool false, .bool true] := by rw [hk]; rfl
      rw [hc] at HD
      clear hc
      have HK := hide hk
      clear hk
      obtain ⟨f0, f1, f2, f3, f4, f5, f6⟩ := flags7 HD.out.h; have c3 := HD.out.m.i1; have c4 := HD.out.m.i2; have c50 := HD.out.m.z
      have HZ := hide (show (z3).length ≤ 140737488353500 from by have := HL0.out; have := encB_len m.i; have := encB_len m.b; have := packC_len m.c; have := (encN_len m.a).2; have := wf.a; have := (encN_len m.d).2; have := wf.d; have := (encX_len wf.x).2; have : (encN [m.i.1, m.i.2]).length ≤ 20 := by { have := (encN_len [m.i.1, m.i.2]).2; simpa using this }; omega)
      have HC := hide (btext_z HD.out.y m.z (by have := HL0.out; omega) (by have := ok.out.z; omega))
      go_upto_region 19 with (first
        | (go_at_call 35; (with_reducible refine (HC.out).mono ?_); rintro e w5 ⟨u5, rfl, hy, hb⟩; have HD := hide (HD.out.made hb (hy.mono HD.out.old.size)); obtain ⟨f0, f1, f2, f3, f4, f5, f6⟩ := flags7 HD.out.h; have c3 := HD.out.m.i1; have c4 := HD.out.m.i2; have c50 := HD.out.m.z; clear hy hb HC))
      clear HZ
      try simp only [Act.put]
      go_wp2
      go_ret
      refine ⟨_, rfl, ?_, HD.out.old⟩
      have e : encM m = (z3 ++ text7 m.z) := by rw [EM.out]; unfold encR; simp [nmI, nmB, nmC, nmA, nmX, nmD, nmZ, HK.out]
      rw [e]
      exact HD.out.y
    · have hc : hC m.k = #[.bool false, .bool false, .bool false, .bool false, .bool false, .bool true, .bool false] := by rw [hk]; rfl
      rw [hc] at HD
      clear hc
      have HK := hide hk
      clear hk
      obtain ⟨f0, f1, f2, f3, f4, f5, f6⟩ := flags7 HD.out.h; have c3 := HD.out.m.i1; have c4 := HD.out.m.i2; have c50 := HD.out.m.z
      have HZ := hide (show (z3).length ≤ 140737488353500 from by have := HL0.out; have := encB_len m.i; have := encB_len m.b; have := packC_len m.c; have := (encN_len m.a).2; have := wf.a; have := (encN_len m.d).2; have := wf.d; have := (encX_len wf.x).2; have : (encN [m.i.1, m.i.2]).length ≤ 20 := by { have := (encN_len [m.i.1, m.i.2]).2; simpa using this }; omega)
      have HC := hide (pnums_by (c := 7) HD.out.y HD.out.m.ns (fun n hn => by have := rightD_says ok.out.d wf.d n hn; unfold I64; omega) (by have := wf.d; have := HZ.out; omega) HD.out.old.size)
      rw [wf.d] at HC
      go_upto_region 17 with (first
        | (go_at_call 31; (with_reducible refine (HC.out).mono ?_); rintro e w5 ⟨u5, rfl, hy, hb⟩; have HD := hide (HD.out.made hb (hy)); obtain ⟨f0, f1, f2, f3, f4, f5, f6⟩ := flags7 HD.out.h; have c3 := HD.out.m.i1; have c4 := HD.out.m.i2; have c50 := HD.out.m.z; clear hy hb HC))
      clear HZ
      try simp only [Act.put]
      go_wp2
      go_ret
      refine ⟨_, rfl, ?_, HD.out.old⟩
      have e : encM m = (z3 ++ encN m.d) := by rw [EM.out]; unfold encR; simp [nmI, nmB, nmC, nmA, nmX, nmD, nmZ, HK.out]
      rw [e]
      exact HD.out.y
end Go.Proofs.Ytlnpfaoeockoiaa
