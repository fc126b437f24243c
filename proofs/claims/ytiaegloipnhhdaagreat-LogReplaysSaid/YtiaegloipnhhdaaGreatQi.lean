/- The program's putNums, putBallot; Put of packages cmd and deps: bytes of the call's own behind others. Conditions: numbers such as an int holds, lengths have room. -/
import Derived.Test.YtiaegloipnhhdaaGreatQc
import Derived.Test.YtiaegloipnhhdaaGreatQh
import Derived.Test.YtiaegloipnhhdaaGreatQf
import Derived.Test.YtiaegloipnhhdaaGreatQe
namespace Go.Proofs.YtiaegloipnhhdaaGreat
set_option maxRecDepth 100000
open Go.RowKit
set_option maxRecDepth 100000 in
set_option maxHeartbeats 4000000 in
theorem dput_own (A0 : Option Addr) (n0 c0 : Nat) (z0 : List Int) (a0 a1 a2 a3 a4 a5 a6 a7 : Int) (w : World) (h0 : z0.length = n0) (hz0 : Lies w A0 z0) (hA0 : A0 = none → c0 = 0) (ln0 : n0 ≤ 140737488354000) (h : ∀ n, n ∈ [a0, a1, a2, a3, a4, a5, a6, a7] → I64 n) : Calls Tryz.prog 92 #[.slice A0 n0 c0, .agg #[.int .i64 a0, .int .i64 a1, .int .i64 a2, .int .i64 a3, .int .i64 a4, .int .i64 a5, .int .i64 a6, .int .i64 a7]] w (MadeO w (n0 + (encN [a0, a1, a2, a3, a4, a5, a6, a7]).length) (z0 ++ encN [a0, a1, a2, a3, a4, a5, a6, a7])) := by
  have hk : ∀ k, k < 8 → I64 (ix [a0, a1, a2, a3, a4, a5, a6, a7] k) := fun k hk => h _ (by rw [ix_lt _ (by simpa using hk)]; exact List.getElem_mem _)
  have HK := hide hk
  have HN0 := hide h0
  have HZ0 := hide hz0
  have HA0 := hide hA0
  clear h0 hz0 hA0
  have o0 : I64 a0 := hk 0 (by omega)
  have HALL := hide (bytesTo_all (a0 := a0) (a1 := a1) (a2 := a2) (a3 := a3) (a4 := a4) (a5 := a5) (a6 := a6) (a7 := a7))
  have hlen := encN_len [a0, a1, a2, a3, a4, a5, a6, a7]
  have hm : (encN [a0, a1, a2, a3, a4, a5, a6, a7]).length ≤ 80 := hlen.2
  generalize encN [a0, a1, a2, a3, a4, a5, a6, a7] = zs at HALL hm ⊢
  have hn0 := hide (fun w => num_nil (m := a0) (ys := bytesTo [a0, a1, a2, a3, a4, a5, a6, a7] 0) (n := (bytesTo [a0, a1, a2, a3, a4, a5, a6, a7] 0).length) w o0.1 o0.2 rfl rfl)
  have hb0 := hide ((Below.refl w.heap.size w).alloc (Nat.le_refl _) (.cells #[.int .i64 a0, .int .i64 a1, .int .i64 a2, .int .i64 a3, .int .i64 a4, .int .i64 a5, .int .i64 a6, .int .i64 a7] 36))
  clear h hk hlen o0
  go_enter Tryz.func92, Tryz.ntmps92
  go_upto_region 2 with (go_at_call 26; refine (hn0.out _).mono ?_; rintro e w1 ⟨A, c, rfl, hc, hL, hA, hb⟩)
  have R := hide ((Row.new w 36 #[.int .i64 a0, .int .i64 a1, .int .i64 a2, .int .i64 a3, .int .i64 a4, .int .i64 a5, .int .i64 a6, .int .i64 a7]).below hb (by simp))
  have HB := hide (hb0.out.trans (hb.mono hb0.out.size))
  have HP := hide (And.intro hL (And.intro hA hc))
  obtain ⟨f0, f1, f2, f3, f4, f5, f6, f7⟩ := R.out.eight
  replace f1 : w1.cell? ⟨w.heap.size, 1, none⟩ = some (.int .i64 a1) := f1
  replace f2 : w1.cell? ⟨w.heap.size, 2, none⟩ = some (.int .i64 a2) := f2
  replace f3 : w1.cell? ⟨w.heap.size, 3, none⟩ = some (.int .i64 a3) := f3
  replace f4 : w1.cell? ⟨w.heap.size, 4, none⟩ = some (.int .i64 a4) := f4
  replace f5 : w1.cell? ⟨w.heap.size, 5, none⟩ = some (.int .i64 a5) := f5
  replace f6 : w1.cell? ⟨w.heap.size, 6, none⟩ = some (.int .i64 a6) := f6
  replace f7 : w1.cell? ⟨w.heap.size, 7, none⟩ = some (.int .i64 a7) := f7
  clear f0 hb hL hA hc hb0 hn0 R
  go_wp2
  clear f1 f2 f3 f4 f5 f6 f7
  go_loopw [5, 13] (fun v i wr => ∃ k : Nat, k ≤ 7 ∧ i = .int .i64 k ∧ (∃ A c, v = .slice A (bytesTo [a0, a1, a2, a3, a4, a5, a6, a7] k).length c ∧ Hid (Lies wr A (bytesTo [a0, a1, a2, a3, a4, a5, a6, a7] k) ∧ (A = none → c = 0) ∧ (bytesTo [a0, a1, a2, a3, a4, a5, a6, a7] k).length ≤ c)) ∧ Hid (Below w.heap.size w wr)) (fun _ i _ => 7 - (intOf i).toNat)
  case atStart => exact ⟨0, by omega, rfl, ⟨A, c, rfl, HP⟩, HB⟩
  case round =>
    clear HP HB
    obtain ⟨k, hk, rfl, ⟨A, c, rfl, HP⟩, HB⟩ := hrel
    by_cases hlt : k < 7
    · have hi := index_deps a1 a2 a3 a4 a5 a6 a7 k hlt
      have he : ix [a1, a2, a3, a4, a5, a6, a7] k = ix [a0, a1, a2, a3, a4, a5, a6, a7] (k + 1) := rfl
      rw [he] at hi
      have oi := HK.out (k + 1) (by omega)
      have hbl := bytesTo_len [a0, a1, a2, a3, a4, a5, a6, a7] k
      have hcon := hide (fun w' (hb : w' = wr) => num_use (n := (bytesTo [a0, a1, a2, a3, a4, a5, a6, a7] k).length) (c := c) (w := w') (A := A) (ix [a0, a1, a2, a3, a4, a5, a6, a7] (k + 1)) rfl (hb ▸ HP.out.1) HP.out.2.1 (by omega) oi.1 oi.2)
      have HS : Hid (bytesTo [a0, a1, a2, a3, a4, a5, a6, a7] (k + 1) = bytesTo [a0, a1, a2, a3, a4, a5, a6, a7] k ++ num7 (ix [a0, a1, a2, a3, a4, a5, a6, a7] (k + 1))) := rfl
      clear he oi
      generalize ix [a0, a1, a2, a3, a4, a5, a6, a7] (k + 1) = q at hi hcon HS
      have k7 : (k : Int) < 7 := by omega
      go_wp2_with (go_at_call 26; refine (hcon.out _ rfl).mono ?_; rintro e w2 ⟨A', c', rfl, hc, hL, hA, hb⟩)
      have HB2 := hide (HB.out.trans (hb.mono HB.out.size))
      have HP2 := hide (And.intro hL (And.intro hA hc))
      clear hb hL hA hc
      go_roundw
      case rel => exact ⟨k + 1, by omega, by go_num, ⟨A', c', by rw [HS.out, List.length_append], by rw [HS.out, List.length_append]; exact HP2⟩, HB2⟩
      case measure => simp [intOf]; omega
    · obtain rfl : k = 7 := by omega
      rw [HALL.out] at HP ⊢
      have k7 : ¬ (((7 : Nat) : Int) < 7) := by omega
      have hcon := hide (concat_own A0 A n0 c0 zs.length c wr.heap.size z0 zs (wr.alloc (.cells #[.slice A0 n0 c0, .slice A zs.length c] 42)) HN0.out rfl ((HZ0.out.below HB.out).alloc _) (HP.out.1.alloc _) HA0.out HP.out.2.1 (by omega) (by simp) ((Row.new _ _ _).cell 0) ((Row.new _ _ _).cell 1))
      go_wp2_with (go_at_call 56; refine hcon.out.mono ?_; rintro e w2 ⟨v, rfl, ho, hb⟩)
      go_ret
      exact ⟨v, rfl, own_lower ho (by have := HB.out.size; simp; omega), HB.out.trans ((kept_trans (kept_alloc (kept_refl _) _) hb).mono HB.out.size)⟩
/-- Bytes of the call's own, from block b0 on. -/
def MadeF (b0 : Nat) (w : World) (zs : List Int) (e : Ending) (w' : World) : Prop := ∃ u, e = .returned u ∧ By b0 w' u zs ∧ Below w.heap.size w w'
theorem madeF_of {b0 : Nat} {w : World} {n m : Nat} {zs ys : List Int} (h1 : zs.length = n) (h2 : ys.length = m) (hb : b0 ≤ w.heap.size) {e : Ending} {w' : World} (h : MadeO w (n + m) (zs ++ ys) e w') : MadeF b0 w (zs ++ ys) e w' := by
  obtain ⟨u, h3, h4, h5⟩ := h
  subst h1 h2
  rw [← List.length_append] at h4
  exact ⟨u, h3, (show By w.heap.size w' u (zs ++ ys) from h4).mono hb, h5⟩
theorem MadeB.made {b0 : Nat} {w : World} {zs : List Int} {e : Ending} {w' : World} (h : MadeB w zs e w') (hb : b0 ≤ w.heap.size) : MadeF b0 w zs e w' := by
  obtain ⟨u, h1, h2, h3⟩ := h
  exact ⟨u, h1, h2.mono hb, h3⟩
section
variable {b0 : Nat} {w : World} {v : Value} {zs : List Int}
theorem cput_by (hv : By b0 w v zs) (hl : zs.length ≤ 140737488354000) (c : Cm) (hb : b0 ≤ w.heap.size) : Calls Tryz.prog 91 #[v, .agg #[.int .i64 c.k, .int .i64 c.c, .int .i64 c.q, .string c.key, .string c.en, .string c.old, .string c.val]] w (MadeF b0 w (zs ++ packC c)) := by
  obtain ⟨A, cp, rfl, hA, _, _, hlz⟩ := hv.form
  exact (cput_own A _ cp zs c.k c.c c.q c.key c.en c.old c.val w rfl hlz hA (by omega)).mono fun _ _ h => madeF_of rfl rfl hb h
theorem dput_by (hv : By b0 w v zs) (hl : zs.length ≤ 140737488354000) {a : List Int} (h8 : a.length = 8) (ho : ∀ n, n ∈ a → I64 n) (hb : b0 ≤ w.heap.size) : Calls Tryz.prog 92 #[v, .agg (cA a)] w (MadeF b0 w (zs ++ encN a)) := by
  obtain ⟨A, cp, rfl, hA, _, _, hlz⟩ := hv.form
  obtain ⟨a0, a1, a2, a3, a4, a5, a6, a7, rfl⟩ := len8 h8
  exact (dput_own A _ cp zs a0 a1 a2 a3 a4 a5 a6 a7 w rfl hlz hA (by omega) ho).mono fun _ _ h => madeF_of rfl rfl hb h
end
/-- Numbers lie one behind the other. -/
def NsAt (w : World) (g off : Nat) (l : List Int) : Prop := g < w.heap.size ∧ ∀ k, k < l.length → w.cell? ⟨g, off + k, none⟩ = some (.int .i64 (ix l k))
theorem NsAt.below {w w' : World} {g off : Nat} {l : List Int} (h : NsAt w g off l) (hb : Below w.heap.size w w') : NsAt w' g off l :=
  ⟨Nat.lt_of_lt_of_le h.1 hb.size, fun k hk => (hb.cell (p := ⟨g, off + k, none⟩) h.1).trans (h.2 k hk)⟩
theorem NsAt.grown {w w' : World} {g off : Nat} {l : List Int} (h : NsAt w g off l) (hb : w.grownBy w' none) : NsAt w' g off l :=
  h.below ⟨hb.os, hb.tape, hb.output, hb.size, fun k hk => hb.block k hk (fun e => by cases e)⟩
theorem encN_take_all (l : List Int) : encN (l.take l.length) = encN l := by rw [List.take_length]
set_option maxHeartbeats 4000000 in
theorem pnums_by {b0 : Nat} {w : World} {v : Value} {zs : List Int} (hv : By b0 w v zs) {g off c : Nat} {l : List Int} (hn : NsAt w g off l) (h64 : ∀ n, n ∈ l → I64 n) (hl : zs.length + 10 * l.length ≤ 140737488354000) (hb : b0 ≤ w.heap.size) :
    Calls Tryz.prog 124 #[v, .slice (some ⟨g, off, none⟩) l.length c] w (MadeF b0 w (zs ++ encN l)) := by
  have HV := hide hv
  have HN := hide hn
  have HI := hide (fun (j : Nat) (hj : j < l.length) => h64 (ix l j) (by rw [ix_lt l hj]; exact List.getElem_mem _))
  have HT := hide (fun (j : Nat) (hj : j < l.length) => encN_take (a := l) (k := j) hj)
  have HE := hide (encN_take_all l)
  have HL := hide (fun (j : Nat) => (encN_len (l.take j)).2)
  have hlen : l.length ≤ 14073748835401 := by omega
  clear hv hn h64
  go_enter Tryz.func124, Tryz.ntmps124
  go_wp2
  go_loopw [0, 9] (fun b i wr => ∃ j : Nat, j ≤ l.length ∧ i = .int .i64 j ∧ Hid (By b0 wr b (zs ++ encN (l.take j))) ∧ Hid (Below w.heap.size w wr)) (fun _ i _ => l.length - (intOf i).toNat)
  case atStart => exact ⟨0, by omega, rfl, hide (by rw [List.take_zero]; show By b0 w v (zs ++ []); rw [List.append_nil]; exact HV.out), hide (Below.refl _ _)⟩
  case round =>
    obtain ⟨j, hj, rfl, HY, HBR⟩ := hrel
    by_cases hlt : j < l.length
    · have j7 : (j : Int) < (l.length : Int) := by omega
      have cq := (HN.out.below HBR.out).2 j hlt
      have HQ := hide (HI.out j hlt)
      have HS := hide (HT.out j hlt)
      have HLL := hide (show (zs ++ encN (l.take j)).length ≤ 140737488354000 by rw [len_two]; have := HL.out j; rw [List.length_take] at this; omega)
      generalize ix l j = q at cq HQ HS
      have HN2 := hide (bnum HY.out q HLL.out HQ.out.1 HQ.out.2)
      go_wp2_with (go_at_call 26; (with_reducible refine HN2.out.mono ?_); rintro e w4 ⟨u4, rfl, hy, hb4⟩)
      have HY3 := hide (show By b0 w4 u4 (zs ++ encN (l.take (j + 1))) by rw [HS.out, ← List.append_assoc]; exact hy.mono (Nat.le_trans hb HBR.out.size))
      have HB3 := hide (kept_trans HBR.out hb4)
      clear hy hb4
      go_roundw
      case rel => exact ⟨j + 1, by omega, by go_num, HY3, HB3⟩
      case measure => simp [intOf]; omega
    · have e7 : j = l.length := by omega
      have j7 : ¬ (j : Int) < (l.length : Int) := by omega
      have HY := hide (show By b0 wr _ (zs ++ encN l) by rw [← HE.out, ← e7]; exact HY.out)
      clear e7 hlt
      go_wp2
      go_ret
      exact ⟨_, rfl, HY.out, HBR.out⟩
theorem ns_lit (w : World) (l : List Int) (t : TypeId) {cs : Array Value} (h : cs = (cellsR l).toArray) : NsAt (w.alloc (.cells cs t)) w.heap.size 0 l := by
  subst h
  refine ⟨by simp, fun k hk => ?_⟩
  have R := Row.new w t (cellsR l).toArray
  rw [R.cell, List.getElem?_toArray, Nat.zero_add]
  exact cellsR_at l hk
theorem encN_two (p : Int × Int) : encN [p.1, p.2] = encB p := by unfold encN encB; simp
set_option maxHeartbeats 4000000 in
theorem pballot_by {b0 : Nat} {v : Value} {zs : List Int} {w : World} (hv : By b0 w v zs) (hl : zs.length ≤ 140737488353500) (p : Int × Int) (h1 : I64 p.1) (h2 : I64 p.2) (hb0 : b0 ≤ w.heap.size) :
    Calls Tryz.prog 90 #[v, .agg #[.int .i64 p.1, .int .i64 p.2]] w (MadeF b0 w (zs ++ encB p)) := by
  have e2 := encN_two p
  rw [← e2]
  clear e2
  obtain ⟨p1, p2⟩ := p
  have HB0 := hide ((Below.refl w.heap.size w).alloc (Nat.le_refl _) (.cells #[.int .i64 p1, .int .i64 p2] 32))
  have HV := hide (hv.below HB0.out)
  have hr := Row.new w 32 #[.int .i64 p1, .int .i64 p2]
  have c0 := hr.cell 0
  have c1 := hr.cell 1
  have HC := hide (show ∀ (w1 : World) (t : TypeId), By b0 w1 v zs → b0 ≤ w1.heap.size → Calls Tryz.prog 124 #[v, .slice (some ⟨w1.heap.size, 0, none⟩) 2 2] (w1.alloc (.cells #[.int .i64 p1, .int .i64 p2] t)) (MadeF b0 (w1.alloc (.cells #[.int .i64 p1, .int .i64 p2] t)) (zs ++ encN [p1, p2])) from
    fun w1 t hV hs => pnums_by (w := w1.alloc (.cells #[.int .i64 p1, .int .i64 p2] t)) (hV.below ((Below.refl _ _).alloc (Nat.le_refl _) _)) (c := 2) (ns_lit w1 [p1, p2] t rfl) (fun n hn => by simp at hn; rcases hn with rfl | rfl <;> assumption) (show zs.length + 10 * 2 ≤ 140737488354000 by omega) (by simp; omega))
  have HH := hide hb0
  clear hv hr
  go_enter Tryz.func90, Tryz.ntmps90
  go_upto_region 1 with (fail)
  generalize w.alloc (.cells #[.int .i64 p1, .int .i64 p2] 32) = w1 at HB0 HV c0 c1 ⊢
  go_wp2_with (go_at_call 124; (with_reducible refine (HC.out w1 _ HV.out (Nat.le_trans HH.out HB0.out.size)).mono ?_); rintro e w2 ⟨u, rfl, hy, hb⟩)
  go_ret
  exact ⟨u, rfl, hy, kept_trans HB0.out (kept_trans ((Below.refl _ _).alloc (Nat.le_refl _) _) hb)⟩
end Go.Proofs.YtiaegloipnhhdaaGreat
/- The program's packedCell and PutCell. Conditions: a cell's attributes are eight numbers; the slice lies, lengths have room. -/
namespace Go.Proofs.YtiaegloipnhhdaaGreat
set_option maxRecDepth 100000
open Go.RowKit
theorem MadeB.nil_ (w w' : World) (hb : Below w.heap.size w w') : MadeB w [] (.returned (.slice none 0 0)) w' := ⟨_, rfl, By.nil_ _ _, hb⟩
set_option maxHeartbeats 8000000 in
theorem ppacked_any (x : Cl) (h8 : x.a.length = 8) (w : World) : Calls Tryz.prog 57 #[.agg (clC x)] w (MadeB w (encCl x)) := by
  have HP := hide (fun w => prightcell_any x h8 w)
  have CE := hide (CeAt.new (x := x) h8 w 38)
  have HB0 := hide ((Below.refl w.heap.size w).alloc (Nat.le_refl _) (.cells (clC x) 38))
  cases hr : rightCl x
  · simp only [hr] at HP
    have e : encCl x = [] := by unfold encCl; rw [hr]; rfl
    rw [e]
    clear e hr
    go_enter Tryz.func57, Tryz.ntmps57
    go_upto_region 1 with (fail)
    generalize w.alloc (.cells (clC x) 38) = w1 at CE HB0 ⊢
    go_wp2_with (first
      | ((with_reducible refine wpList_load_ce h8 ?_ ?_ CE.out.all ?_); rfl; rfl)
      | (go_at_call 23; (with_reducible refine (HP.out _).mono ?_); rintro e w2 ⟨rfl, hb⟩; have HB0 := hide (kept_trans HB0.out hb); clear hb))
    go_ret
    exact MadeB.nil_ _ _ HB0.out
  · simp only [hr] at HP
    have ok := hide (rightCl_says hr)
    have e : encCl x = encX x := by unfold encCl; rw [hr]; rfl
    rw [e]
    clear e hr
    have HX := hide h8
    obtain ⟨a0, a1, a2, a3, a4, a5, a6, a7, ha⟩ := len8 h8
    have HA := hide (rightAl_says ok.out.a h8)
    obtain ⟨st, ⟨p1, p2⟩, ⟨v1, v2⟩, ⟨ck, cc, cq, ca, cb, co, cv⟩, a, s⟩ := x
    dsimp only at ha h8 ok HA HX
    subst ha
    clear h8
    go_enter Tryz.func57, Tryz.ntmps57
    go_upto_region 1 with (fail)
    generalize w.alloc (.cells (clC _) 38) = w1 at CE HB0 ⊢
    go_upto_region 3 with (first
      | ((with_reducible refine wpList_load_ce (y := ⟨st, (p1, p2), (v1, v2), ⟨ck, cc, cq, ca, cb, co, cv⟩, [a0, a1, a2, a3, a4, a5, a6, a7], s⟩) HX.out ?_ ?_ CE.out.all ?_); rfl; rfl)
      | (go_at_call 23; (with_reducible refine (HP.out _).mono ?_); rintro e w2 ⟨rfl, hb⟩; have HB0 := hide (kept_trans HB0.out hb); have CE := hide (CE.out.kept hb); clear hb))
    generalize (Value.agg (clC _)) = va
    refine wp_region_noPanic ?_
    refine wp_region_T 6 (fun w' => CeAt w' w.heap.size 38 ⟨st, (p1, p2), (v1, v2), ⟨ck, cc, cq, ca, cb, co, cv⟩, [a0, a1, a2, a3, a4, a5, a6, a7], s⟩) (by kernel_rfl) ?_
    have HD := hide (show (fun w' => CeAt w' w.heap.size 38 ⟨st, (p1, p2), (v1, v2), ⟨ck, cc, cq, ca, cb, co, cv⟩, [a0, a1, a2, a3, a4, a5, a6, a7], s⟩) w2.drew ∧ By w.heap.size w2.drew (.slice none 0 0) [] ∧ Below w.heap.size w w2.drew from ⟨CE.out.drew, By.nil_ _ _, HB0.out.drew⟩)
    generalize World.drew _ = wda at HD ⊢
    refine anyT_take (i := 0) (v := ?ov0a) (by simp only [List.getElem?_toArray, List.getElem?_cons_zero]; exact rfl) (by kernel_rfl) (by kernel_rfl) (fun _ _ _ h => h) (by kernel_rfl) (by kernel_rfl) (Or.inl ⟨by rfl, ?oy0a⟩) (by with_reducible exact HD.out.1) ?or0a
    case oy0a => (intro w hSw; skip; go_simp; try with_reducible rfl)
    try simp only [Act.put, List.setIfInBounds_toArray, List.set_cons_zero, List.set_cons_succ]
    refine anyT_take (i := 1) (v := ?ov1a) (by simp only [List.getElem?_toArray, List.getElem?_cons_succ, List.getElem?_cons_zero]; exact rfl) (by kernel_rfl) (by kernel_rfl) (fun _ _ _ h => h) (by kernel_rfl) (by kernel_rfl) (Or.inl ⟨by rfl, ?oy1a⟩) (by with_reducible exact HD.out.1) ?or1a
    case oy1a => (intro w hSw; obtain ⟨c0, c1, c2, c3, c4, c5, c6, c7, c8, c9, c10, c11, c12, c13, c14, c15, c16, c17, c18, c19, c20⟩ := hSw.cells rfl; (try dsimp only at c0 c1 c2 c3 c4 c5 c6 c7 c8 c9 c10 c11 c20); go_simp; try with_reducible rfl)
    try simp only [Act.put, List.setIfInBounds_toArray, List.set_cons_zero, List.set_cons_succ]
    refine anyT_take (i := 3) (v := ?ov3a) (by simp only [List.getElem?_toArray, List.getElem?_cons_succ, List.getElem?_cons_zero]; exact rfl) (by kernel_rfl) (by kernel_rfl) (fun _ _ _ h => h) (by kernel_rfl) (by kernel_rfl) (Or.inl ⟨by rfl, ?oy3a⟩) (by with_reducible exact HD.out.1) ?or3a
    case oy3a => (intro w hSw; skip; go_simp; try with_reducible rfl)
    try simp only [Act.put, List.setIfInBounds_toArray, List.set_cons_zero, List.set_cons_succ]
    refine anyT_take (i := 4) (v := ?ov4a) (by simp only [List.getElem?_toArray, List.getElem?_cons_succ, List.getElem?_cons_zero]; exact rfl) (by kernel_rfl) (by kernel_rfl) (fun _ _ _ h => h) (by kernel_rfl) (by kernel_rfl) (Or.inl ⟨by rfl, ?oy4a⟩) (by with_reducible exact HD.out.1) ?or4a
    case oy4a => (intro w hSw; obtain ⟨c0, c1, c2, c3, c4, c5, c6, c7, c8, c9, c10, c11, c12, c13, c14, c15, c16, c17, c18, c19, c20⟩ := hSw.cells rfl; (try dsimp only at c0 c1 c2 c3 c4 c5 c6 c7 c8 c9 c10 c11 c20); go_simp; try with_reducible rfl)
    try simp only [Act.put, List.setIfInBounds_toArray, List.set_cons_zero, List.set_cons_succ]
    refine anyT_one (i := 2) (by kernel_rfl) (by simp only [List.getElem?_toArray, List.getElem?_cons_succ, List.getElem?_cons_zero]; exact rfl) (fun K hK => ?_)
    try go_simp
    refine (bnum HD.out.2.1 st (by simp) (by have := ok.out.st; dsimp only at this; omega) (by have := ok.out.st; dsimp only at this; omega)).mono ?_
    rintro e w2a ⟨y2a, rfl, hy, hb⟩
    have HD := hide (show (fun w' => CeAt w' w.heap.size 38 ⟨st, (p1, p2), (v1, v2), ⟨ck, cc, cq, ca, cb, co, cv⟩, [a0, a1, a2, a3, a4, a5, a6, a7], s⟩) w2a ∧ By w.heap.size w2a y2a ([] ++ num7 st) ∧ Below w.heap.size w w2a from ⟨(fun hb h => CeAt.kept h hb) hb HD.out.1, hy.mono HD.out.2.2.size, kept_trans HD.out.2.2 hb⟩)
    have HL := hide (show ([] ++ num7 st).length ≤ 140737488354000 from by rw [len_two, List.length_nil]; have := (num7_len st).2; have := encB_len (p1, p2); have := encB_len (v1, v2); have := packC_len ⟨ck, cc, cq, ca, cb, co, cv⟩; have := (encN_len [a0, a1, a2, a3, a4, a5, a6, a7]).2; have : ([a0, a1, a2, a3, a4, a5, a6, a7] : List Int).length = 8 := rfl; have : (flg7 s).length = 1 := rfl; omega)
    clear hy hb
    refine hK.out _ _ (fun _ => HD.out.1) ?_
    clear hK K
    try simp only [Act.put, List.setIfInBounds_toArray, List.set_cons_zero, List.set_cons_succ]
    refine anyT_one (i := 5) (by kernel_rfl) (by simp only [List.getElem?_toArray, List.getElem?_cons_succ, List.getElem?_cons_zero]; exact rfl) (fun K hK => ?_)
    try go_simp
    refine (pballot_by HD.out.2.1 (by have := (num7_len st).2; rw [len_two, List.length_nil]; omega) (p1, p2) (small ok.out.p.1.1 ok.out.p.1.2) (small ok.out.p.2.1 (by have := ok.out.p; dsimp only at this; omega)) HD.out.2.2.size).mono ?_
    rintro e w5a ⟨y5a, rfl, hy, hb⟩
    have HD := hide (show (fun w' => CeAt w' w.heap.size 38 ⟨st, (p1, p2), (v1, v2), ⟨ck, cc, cq, ca, cb, co, cv⟩, [a0, a1, a2, a3, a4, a5, a6, a7], s⟩) w5a ∧ By w.heap.size w5a y5a (([] ++ num7 st) ++ encB (p1, p2)) ∧ Below w.heap.size w w5a from ⟨(fun hb h => CeAt.kept h hb) hb HD.out.1, hy, kept_trans HD.out.2.2 hb⟩)
    have HL := hide (show (([] ++ num7 st) ++ encB (p1, p2)).length ≤ 140737488354000 from by rw [len_two, len_two, List.length_nil]; have := (num7_len st).2; have := encB_len (p1, p2); have := encB_len (v1, v2); have := packC_len ⟨ck, cc, cq, ca, cb, co, cv⟩; have := (encN_len [a0, a1, a2, a3, a4, a5, a6, a7]).2; have : ([a0, a1, a2, a3, a4, a5, a6, a7] : List Int).length = 8 := rfl; have : (flg7 s).length = 1 := rfl; omega)
    clear hy hb
    refine hK.out _ _ (fun _ => HD.out.1) ?_
    clear hK K
    try simp only [Act.put, List.setIfInBounds_toArray, List.set_cons_zero, List.set_cons_succ]
    refine anyT_one (i := 6) (by kernel_rfl) (by simp only [List.getElem?_toArray, List.getElem?_cons_succ, List.getElem?_cons_zero]; exact rfl) (fun K hK => ?_)
    try go_simp
    refine hK.out _ _ (fun e => absurd rfl e) ?_
    clear hK K
    refine anyT_done (by kernel_rfl) ?_
    refine NoPanic.normal ?_
    try simp only [Act.put]
    generalize w5a = w2, y5a = u2 at HD ⊢
    have HD2 := hide HD.out
    clear HD HL HP CE HB0
    obtain ⟨c0, c1, c2, c3, c4, c5, c6, c7, c8, c9, c10, c11, c12, c13, c14, c15, c16, c17, c18, c19, c20⟩ := HD2.out.1.cells rfl; dsimp only at c0 c3 c4 c5 c6 c7 c8 c9 c10 c11 c20
    by_cases h0 : st = 0
    · subst h0
      go_wp2
      go_ret
      refine ⟨_, rfl, ?_, HD2.out.2.2⟩
      have e : ([] ++ num7 0) ++ encB (p1, p2) = encX ⟨0, (p1, p2), (v1, v2), ⟨ck, cc, cq, ca, cb, co, cv⟩, [a0, a1, a2, a3, a4, a5, a6, a7], s⟩ := by unfold encX encT; simp
      rw [← e]
      exact HD2.out.2.1
    · have t0 : (st == 0) = false := by simpa using h0
      have H1 := hide (show (([] ++ num7 st) ++ encB (p1, p2)).length ≤ 140737488353500 from by rw [len_two, len_two, List.length_nil]; have := (num7_len st).2; have := encB_len (p1, p2); have := encB_len (v1, v2); have := packC_len ⟨ck, cc, cq, ca, cb, co, cv⟩; have := (encN_len [a0, a1, a2, a3, a4, a5, a6, a7]).2; have : ([a0, a1, a2, a3, a4, a5, a6, a7] : List Int).length = 8 := rfl; have : (flg7 s).length = 1 := rfl; omega)
      have H2 := hide (show ((([] ++ num7 st) ++ encB (p1, p2)) ++ encB (v1, v2)).length ≤ 140737488353500 from by rw [len_two, len_two, len_two, List.length_nil]; have := (num7_len st).2; have := encB_len (p1, p2); have := encB_len (v1, v2); have := packC_len ⟨ck, cc, cq, ca, cb, co, cv⟩; have := (encN_len [a0, a1, a2, a3, a4, a5, a6, a7]).2; have : ([a0, a1, a2, a3, a4, a5, a6, a7] : List Int).length = 8 := rfl; have : (flg7 s).length = 1 := rfl; omega)
      have H3 := hide (show (((([] ++ num7 st) ++ encB (p1, p2)) ++ encB (v1, v2)) ++ packC ⟨ck, cc, cq, ca, cb, co, cv⟩).length ≤ 140737488353500 from by rw [len_two, len_two, len_two, len_two, List.length_nil]; have := (num7_len st).2; have := encB_len (p1, p2); have := encB_len (v1, v2); have := packC_len ⟨ck, cc, cq, ca, cb, co, cv⟩; have := (encN_len [a0, a1, a2, a3, a4, a5, a6, a7]).2; have : ([a0, a1, a2, a3, a4, a5, a6, a7] : List Int).length = 8 := rfl; have : (flg7 s).length = 1 := rfl; omega)
      have H4 := hide (show ((((([] ++ num7 st) ++ encB (p1, p2)) ++ encB (v1, v2)) ++ packC ⟨ck, cc, cq, ca, cb, co, cv⟩) ++ encN [a0, a1, a2, a3, a4, a5, a6, a7]).length ≤ 140737488353500 from by rw [len_two, len_two, len_two, len_two, len_two, List.length_nil]; have := (num7_len st).2; have := encB_len (p1, p2); have := encB_len (v1, v2); have := packC_len ⟨ck, cc, cq, ca, cb, co, cv⟩; have := (encN_len [a0, a1, a2, a3, a4, a5, a6, a7]).2; have : ([a0, a1, a2, a3, a4, a5, a6, a7] : List Int).length = 8 := rfl; have : (flg7 s).length = 1 := rfl; omega)
      have HE := hide (show ((((([] ++ num7 st) ++ encB (p1, p2)) ++ encB (v1, v2)) ++ packC ⟨ck, cc, cq, ca, cb, co, cv⟩) ++ encN [a0, a1, a2, a3, a4, a5, a6, a7]) ++ flg7 s = encX ⟨st, (p1, p2), (v1, v2), ⟨ck, cc, cq, ca, cb, co, cv⟩, [a0, a1, a2, a3, a4, a5, a6, a7], s⟩ from by unfold encX encT; simp [List.append_assoc, h0])
      clear h0
      go_upto_region 7 with (first
        | ((with_reducible refine wpList_load_bal (p := v1) (q := v2) ?_ ?_ HD2.out.1.v ?_); rfl; rfl)
        | (go_at_call 90; (with_reducible refine (pballot_by HD2.out.2.1 H1.out (v1, v2) (small ok.out.v.1.1 ok.out.v.1.2) (small ok.out.v.2.1 (by have := ok.out.v; dsimp only at this; omega)) HD2.out.2.2.size).mono ?_); rintro e w3 ⟨u3, rfl, hy, hb⟩; have HD2 := hide (show CeAt w3 w.heap.size 38 ⟨st, (p1, p2), (v1, v2), ⟨ck, cc, cq, ca, cb, co, cv⟩, [a0, a1, a2, a3, a4, a5, a6, a7], s⟩ ∧ By w.heap.size w3 u3 ((([] ++ num7 st) ++ encB (p1, p2)) ++ encB (v1, v2)) ∧ Below w.heap.size w w3 from ⟨HD2.out.1.kept hb, hy, kept_trans HD2.out.2.2 hb⟩); obtain ⟨c0, c1, c2, c3, c4, c5, c6, c7, c8, c9, c10, c11, c12, c13, c14, c15, c16, c17, c18, c19, c20⟩ := HD2.out.1.cells rfl; dsimp only at c0 c3 c4 c5 c6 c7 c8 c9 c10 c11 c20; clear hy hb))
      go_upto_region 8 with (first
        | ((with_reducible refine wpList_load_cm (y := ⟨ck, cc, cq, ca, cb, co, cv⟩) ?_ ?_ HD2.out.1.c ?_); rfl; rfl)
        | (go_at_call 91; (with_reducible refine (cput_by HD2.out.2.1 (by have := H2.out; omega) ⟨ck, cc, cq, ca, cb, co, cv⟩ HD2.out.2.2.size).mono ?_); rintro e w3 ⟨u3, rfl, hy, hb⟩; have HD2 := hide (show CeAt w3 w.heap.size 38 ⟨st, (p1, p2), (v1, v2), ⟨ck, cc, cq, ca, cb, co, cv⟩, [a0, a1, a2, a3, a4, a5, a6, a7], s⟩ ∧ By w.heap.size w3 u3 (((([] ++ num7 st) ++ encB (p1, p2)) ++ encB (v1, v2)) ++ packC ⟨ck, cc, cq, ca, cb, co, cv⟩) ∧ Below w.heap.size w w3 from ⟨HD2.out.1.kept hb, hy, kept_trans HD2.out.2.2 hb⟩); obtain ⟨c0, c1, c2, c3, c4, c5, c6, c7, c8, c9, c10, c11, c12, c13, c14, c15, c16, c17, c18, c19, c20⟩ := HD2.out.1.cells rfl; dsimp only at c0 c3 c4 c5 c6 c7 c8 c9 c10 c11 c20; clear hy hb))
      go_upto_region 9 with (first
        | ((with_reducible refine wpList_load_at (y := [a0, a1, a2, a3, a4, a5, a6, a7]) rfl ?_ ?_ HD2.out.1.a ?_); rfl; rfl)
        | (go_at_call 92; (with_reducible refine (dput_by (a := [a0, a1, a2, a3, a4, a5, a6, a7]) HD2.out.2.1 (by have := H3.out; omega) rfl HA.out HD2.out.2.2.size).mono ?_); rintro e w3 ⟨u3, rfl, hy, hb⟩; have HD2 := hide (show CeAt w3 w.heap.size 38 ⟨st, (p1, p2), (v1, v2), ⟨ck, cc, cq, ca, cb, co, cv⟩, [a0, a1, a2, a3, a4, a5, a6, a7], s⟩ ∧ By w.heap.size w3 u3 ((((([] ++ num7 st) ++ encB (p1, p2)) ++ encB (v1, v2)) ++ packC ⟨ck, cc, cq, ca, cb, co, cv⟩) ++ encN [a0, a1, a2, a3, a4, a5, a6, a7]) ∧ Below w.heap.size w w3 from ⟨HD2.out.1.kept hb, hy, kept_trans HD2.out.2.2 hb⟩); obtain ⟨c0, c1, c2, c3, c4, c5, c6, c7, c8, c9, c10, c11, c12, c13, c14, c15, c16, c17, c18, c19, c20⟩ := HD2.out.1.cells rfl; dsimp only at c0 c3 c4 c5 c6 c7 c8 c9 c10 c11 c20; clear hy hb))
      go_wp2_with (go_at_call 93; (with_reducible refine (bflag HD2.out.2.1 s (by have := H4.out; omega)).mono ?_); rintro e w3 ⟨u3, rfl, hy, hb⟩; have HD2 := hide (show CeAt w3 w.heap.size 38 ⟨st, (p1, p2), (v1, v2), ⟨ck, cc, cq, ca, cb, co, cv⟩, [a0, a1, a2, a3, a4, a5, a6, a7], s⟩ ∧ By w.heap.size w3 u3 (((((([] ++ num7 st) ++ encB (p1, p2)) ++ encB (v1, v2)) ++ packC ⟨ck, cc, cq, ca, cb, co, cv⟩) ++ encN [a0, a1, a2, a3, a4, a5, a6, a7]) ++ flg7 s) ∧ Below w.heap.size w w3 from ⟨HD2.out.1.kept hb, hy.mono HD2.out.2.2.size, kept_trans HD2.out.2.2 hb⟩); obtain ⟨c0, c1, c2, c3, c4, c5, c6, c7, c8, c9, c10, c11, c12, c13, c14, c15, c16, c17, c18, c19, c20⟩ := HD2.out.1.cells rfl; dsimp only at c0 c3 c4 c5 c6 c7 c8 c9 c10 c11 c20; clear hy hb)
      go_ret
      refine ⟨_, rfl, ?_, HD2.out.2.2⟩
      rw [← HE.out]
      exact HD2.out.2.1
set_option maxHeartbeats 4000000 in
theorem pputcell_any {v : Value} {zs : List Int} {w : World} (hv : Slv w v zs) (hl : zs.length ≤ 140737488353000) (x : Cl) (h8 : x.a.length = 8) :
    Calls Tryz.prog 25 #[v, .agg (clC x)] w (MadeB w (zs ++ encCl x)) := by
  have HP := hide (fun w => ppacked_any x h8 w)
  have CE := hide (CeAt.new (x := x) h8 w 38)
  have HB := hide ((Below.refl w.heap.size w).alloc (Nat.le_refl _) (.cells (clC x) 38))
  have HV := hide (hv.below HB.out)
  have hle : (encCl x).length ≤ 600 := by
    unfold encCl
    split
    · have := (encX_len h8).2; omega
    · simp
  clear hv
  obtain ⟨A, c, rfl, hz, hA⟩ : ∃ A c, v = .slice A zs.length c ∧ Hid (Lies (w.alloc (.cells (clC x) 38)) A zs) ∧ Hid (A = none → c = 0) := by
    obtain ⟨A, c, e, h1, h2⟩ := HV.out
    exact ⟨A, c, e, h1, h2⟩
  clear HV
  generalize hys : encCl x = ys at HP hle ⊢
  have HYS := hide hys
  clear hys HYS
  obtain ⟨m, hm⟩ : ∃ m, ys.length = m := ⟨_, rfl⟩
  obtain ⟨n, hn⟩ : ∃ n, zs.length = n := ⟨_, rfl⟩
  rw [hm] at hle
  rw [hn] at hl ⊢
  have HM := hide hm
  have HN := hide hn
  clear hm hn
  go_enter Tryz.func25, Tryz.ntmps25
  go_upto_region 1 with (fail)
  generalize w.alloc (.cells (clC x) 38) = w1 at CE HB hz ⊢
  go_wp2_with (first
    | ((with_reducible refine wpList_load_ce h8 ?_ ?_ CE.out.all ?_); rfl; rfl)
    | (go_at_call 57; (with_reducible refine (HP.out _).mono ?_); rintro e w2 ⟨u2, rfl, hy, hb⟩; obtain ⟨B, d, rfl, hB, _, hd, hL⟩ := hy.form; have HB1 := hide (kept_trans HB.out hb); have HL := hide hL; have HBn := hide hB; have HZ := hide (hz.out.below hb); clear hb hL hy hd hB; rw [HM.out])
    | (go_at_call 56; (with_reducible refine (concat_lit _ HN.out HM.out HZ.out HL.out hA.out HBn.out (by omega)).mono ?_); rintro e w3 ⟨v2, rfl, ho2, hb2⟩))
  go_ret
  refine ⟨v2, rfl, ?_, kept_trans HB1.out hb2⟩
  have hz2 := ho2.mono HB1.out.size
  rw [← HN.out, ← HM.out, ← List.length_append] at hz2
  exact hz2
end Go.Proofs.YtiaegloipnhhdaaGreat
/- Records of a log as bytes: P16.6. Conditions: a cell's attributes are eight numbers. No condition on a program: nothing here speaks of one. -/
namespace Go.Proofs.YtiaegloipnhhdaaGreat
open Go.RowKit
/-- P16.6: a record's bytes. -/
def encRec (i : Int × Int) (c : Cl) : List Int := encB i ++ encCl c
def dRec0 (zs : List Int) (i : Nat) : Rdm ((Int × Int) × Cl) := bnd (dBal zs i) fun x j => bnd (dCl zs j) fun c j => .ok ((x, c), j)
/-- P16.6: Replay: the instance, the cell, the error. -/
def decRec (zs : List Int) : (Int × Int) × Cl × Int := match dRec0 zs 0 with
  | .error e => ((0, 0), zeroCl, e)
  | .ok (x, j) => if j < zs.length then ((0, 0), zeroCl, 5) else if rightI x.1.1 x.1.2 then (x.1, x.2, 0) else ((0, 0), zeroCl, 4)
theorem nz_rec (zs : List Int) (i : Nat) : Nz (dRec0 zs i) := (nz_bal _ _).bnd fun _ _ => (nz_cl _ _).bnd fun _ _ => Nz.ok _
theorem rightI_i64 {i : Int × Int} (h : rightI i.1 i.2 = true) : I64 i.1 ∧ I64 i.2 := by
  unfold rightI repB at h
  simp only [Bool.and_eq_true, decide_eq_true_eq] at h
  unfold I64
  omega
/-- Replay of Record is what was written, if it is right. -/
theorem rec_there {i : Int × Int} {c : Cl} (hi : rightI i.1 i.2 = true) (hr : rightCl c = true) (hl : c.a.length = 8) : decRec (encRec i c) = (i, c, 0) := by
  have e : encRec i c = encB i ++ (encX c ++ []) := by unfold encRec encCl; rw [if_pos hr, List.append_nil]
  have h1 := bal_there (zs := encRec i c) (i := 0) (ys := encX c ++ []) (b := i) (by rw [List.drop_zero]; exact e) (rightI_i64 hi).1 (rightI_i64 hi).2
  have h2 := cl_there (zs := encRec i c) (i := 0 + (encB i).length) (ys := []) hr hl (drop_next (by rw [List.drop_zero]; exact e))
  have h3 : dRec0 (encRec i c) 0 = .ok ((i, c), 0 + (encB i).length + (encX c).length) := by
    unfold dRec0
    rw [h1]
    show bnd (dCl (encRec i c) (0 + (encB i).length)) _ = _
    rw [h2]
    rfl
  unfold decRec
  rw [h3]
  show (if 0 + (encB i).length + (encX c).length < (encRec i c).length then _ else _) = _
  rw [if_neg (by rw [e]; simp only [List.length_append, List.length_nil]; omega)]
  show (if rightI i.1 i.2 then (i, c, (0 : Int)) else _) = _
  rw [if_pos hi]
/-- What Replay takes is Record of it. -/
theorem rec_back {zs : List Int} (hz : Octets zs) {i : Int × Int} {c : Cl} (h : decRec zs = (i, c, 0)) : encRec i c = zs ∧ rightI i.1 i.2 = true ∧ rightCl c = true ∧ c.a.length = 8 := by
  unfold decRec at h
  cases hd : dRec0 zs 0 with
  | error e =>
    rw [hd] at h
    injection h with _ h
    injection h with _ h
    exact absurd h (nz_rec zs 0 e hd)
  | ok v =>
    obtain ⟨⟨x, y⟩, j⟩ := v
    rw [hd] at h
    simp only at h
    split at h
    · injection h with _ h
      injection h with _ h
      exact absurd h (by decide)
    · rename_i hj
      split at h
      · rename_i hr
        injection h with e1 h
        injection h with e2 _
        subst e1 e2
        unfold dRec0 at hd
        obtain ⟨a, j1, h1, h2⟩ := bnd_ok hd
        obtain ⟨b, j2, h3, h4⟩ := bnd_ok h2
        injection h4 with h4
        injection h4 with h5 h6
        injection h5 with e3 e4
        subst e3 e4 h6
        have k1 := bal_back hz h1
        obtain ⟨k2, k3, k4⟩ := cl_back hz h3
        rw [List.drop_zero] at k1
        refine ⟨?_, hr, k4, k3⟩
        unfold encRec encCl
        rw [if_pos k4, k1, k2, List.drop_of_length_le (by omega), List.append_nil]
      · injection h with _ h
        injection h with _ h
        exact absurd h (by decide)
theorem octets_encRec (i : Int × Int) (c : Cl) : Octets (encRec i c) := (octets_encB i).app (octets_encCl c)
theorem encRec_len {i : Int × Int} {c : Cl} (hl : c.a.length = 8) : (encRec i c).length ≤ 451 := by
  unfold encRec
  rw [List.length_append]
  have := encB_len i
  have := encCl_len hl
  omega
/-- Of two records neither begins the other. -/
theorem rec_front {i1 i2 : Int × Int} {c1 c2 : Cl} {ys : List Int} (h1 : rightI i1.1 i1.2 = true) (r1 : rightCl c1 = true) (l1 : c1.a.length = 8) (h2 : rightI i2.1 i2.2 = true) (r2 : rightCl c2 = true) (l2 : c2.a.length = 8) (h : encRec i2 c2 = encRec i1 c1 ++ ys) : i1 = i2 ∧ c1 = c2 ∧ ys = [] := by
  have e1 : encRec i2 c2 = encB i1 ++ (encX c1 ++ ys) := by rw [h]; unfold encRec encCl; rw [if_pos r1, List.append_assoc]
  have e2 : encRec i2 c2 = encB i2 ++ (encX c2 ++ []) := by unfold encRec encCl; rw [if_pos r2, List.append_nil]
  have a1 := bal_there (zs := encRec i2 c2) (i := 0) (by rw [List.drop_zero]; exact e1) (rightI_i64 h1).1 (rightI_i64 h1).2
  have a2 := bal_there (zs := encRec i2 c2) (i := 0) (by rw [List.drop_zero]; exact e2) (rightI_i64 h2).1 (rightI_i64 h2).2
  rw [a1] at a2
  injection a2 with a2
  injection a2 with e3 _
  subst e3
  have b1 := cl_there (zs := encRec i1 c2) (i := 0 + (encB i1).length) r1 l1 (drop_next (by rw [List.drop_zero]; exact e1))
  have b2 := cl_there (zs := encRec i1 c2) (i := 0 + (encB i1).length) r2 l2 (drop_next (by rw [List.drop_zero]; exact e2))
  rw [b1] at b2
  injection b2 with b2
  injection b2 with e4 _
  subst e4
  refine ⟨rfl, rfl, ?_⟩
  have := congrArg List.length h
  rw [List.length_append] at this
  exact List.eq_nil_of_length_eq_zero (by omega)
/-- A record cut off is none. -/
theorem rec_cut {i : Int × Int} {c : Cl} (hi : rightI i.1 i.2 = true) (hr : rightCl c = true) (hl : c.a.length = 8) {q : Nat} (hq : q < (encRec i c).length) : (decRec ((encRec i c).take q)).2.2 ≠ 0 := fun e => by
  obtain ⟨x, hx⟩ : ∃ x, decRec ((encRec i c).take q) = x := ⟨_, rfl⟩
  obtain ⟨i', c', y⟩ := x
  rw [hx] at e
  simp only at e
  subst e
  obtain ⟨k1, k2, k3, k4⟩ := rec_back (fun z hz => octets_encRec i c z (List.mem_of_mem_take hz)) hx
  obtain ⟨rfl, rfl, h⟩ := rec_front (ys := (encRec i c).drop q) k2 k3 k4 hi hr hl (by rw [k1, List.take_append_drop])
  have := congrArg List.length h
  rw [List.length_drop, List.length_nil] at this
  omega
end Go.Proofs.YtiaegloipnhhdaaGreat
