/- Get of package deps, at a reader: its contract. No condition. -/
import Derived.Test.YtpngcocmjbkfgaaGetp
import Derived.Test.YtpngcocmjbkfgaaJoinc
import Derived.Test.YtpngcocmjbkfgaaText
namespace Go.Proofs.Ytpngcocmjbkfgaa
open Go.RowKit
/-- The first n of the numbers that f tells, then zeros. -/
def fill8 (f : Nat → Int) (n : Nat) : List Int := tab8 fun j => if j < n then f j else 0
theorem set_fill (f : Nat → Int) {k : Nat} (h : k < 7) : (cA (fill8 f (1 + k))).setIfInBounds (1 + k) (.int .i64 (f (1 + k))) = cA (fill8 f (1 + (k + 1))) := by
  match k, h with
  | 0, _ => rfl
  | 1, _ => rfl
  | 2, _ => rfl
  | 3, _ => rfl
  | 4, _ => rfl
  | 5, _ => rfl
  | 6, _ => rfl
theorem grown_own {a b : World} {row : Option Nat} (h : a.grownBy b row) {g : Nat} (hg : a.heap.size ≤ g) (i : Nat) (u : Value) : a.grownBy (b.setCell ⟨g, i, none⟩ u) row :=
  ⟨h.os, h.tape, h.output, by have := h.size; simpa [World.setCell] using this, fun k hk hr => (Below.heap_setCell b ⟨g, i, none⟩ u k (by show k ≠ g; omega)).trans (h.block k hk hr)⟩
theorem grown_eight {a b : World} {row : Option Nat} (h : a.grownBy b row) {g : Nat} (hg : a.heap.size ≤ g) (v0 v1 v2 v3 v4 v5 v6 v7 : Value) :
    a.grownBy ((((((((b.setCell ⟨g, 0, none⟩ v0).setCell ⟨g, 1, none⟩ v1).setCell ⟨g, 2, none⟩ v2).setCell ⟨g, 3, none⟩ v3).setCell ⟨g, 4, none⟩ v4).setCell ⟨g, 5, none⟩ v5).setCell ⟨g, 6, none⟩ v6).setCell ⟨g, 7, none⟩ v7) row :=
  grown_own (grown_own (grown_own (grown_own (grown_own (grown_own (grown_own (grown_own h hg _ _) hg _ _) hg _ _) hg _ _) hg _ _) hg _ _) hg _ _) hg _ _
/-- While it reads: n numbers are read, m of them stand in the answer's block S. -/
structure Gt (w wr : World) (B g S : Nat) (zs : List Int) (i : Nat) (e : Int) (n m : Nat) : Prop where
  grown : w.grownBy wr (some g)
  rdr : Rdr 67 wr B g zs (stN zs i e n).1 (stN zs i e n).2
  res : Row wr w.heap.size 25 (cA zero8)
  a : Row wr S 25 (cA (fill8 (valN zs i e) m))
  lo : g < w.heap.size
  hi : w.heap.size < S
section
variable {w wr w' : World} {B g S : Nat} {zs : List Int} {i : Nat} {e : Int} {n m : Nat}
theorem Gt.num (h : Gt w wr B g S zs i e n m) (hr : Rdr 67 w' B g zs (rNumA zs (stN zs i e n).1 (stN zs i e n).2) (rNumE zs (stN zs i e n).1 (stN zs i e n).2)) (hg : wr.grownBy w' (some g)) : Gt w w' B g S zs i e (n + 1) m :=
  have h1 := h.lo
  have h2 := h.hi
  ⟨grown_trans h.grown hg, by rw [stN_last]; exact hr, h.res.grown hg (fun e => by injection e; omega), h.a.grown hg (fun e => by injection e; omega), h1, h2⟩
theorem Gt.put {k : Nat} (h : Gt w wr B g S zs i e n (1 + k)) (hk : k < 7) : Gt w (wr.setCell ⟨S, 1 + k, none⟩ (.int .i64 (valN zs i e (1 + k)))) B g S zs i e n (1 + (k + 1)) :=
  have h1 := h.lo
  have h2 := h.hi
  have h3 := h.rdr.low
  have hf : ∀ j, j < S → (wr.setCell ⟨S, 1 + k, none⟩ (.int .i64 (valN zs i e (1 + k)))).heap[j]? = wr.heap[j]? := fun j hj => Below.heap_setCell _ _ _ _ (by show j ≠ S; omega)
  ⟨grown_own h.grown (by omega) _ _, h.rdr.keep (fun j hj => hf j (by omega)) (hf g (by omega)), (hf _ h2).trans h.res, set_fill _ hk ▸ h.a.put (1 + k) _, h1, h2⟩
theorem Gt.below (h : Gt w wr B g S zs i e n m) (hb : Below wr.heap.size wr w') : Gt w w' B g S zs i e n m :=
  ⟨grown_trans h.grown (grown_any (grown_below hb)), h.rdr.below hb, h.res.below hb h.res.lt, h.a.below hb h.a.lt, h.lo, h.hi⟩
/-- At its end. -/
structure Ge (w wr : World) (B g S : Nat) (zs : List Int) (i : Nat) (E : Int) (l : List Int) : Prop where
  grown : w.grownBy wr (some g)
  rdr : Rdr 67 wr B g zs i E
  res : Row wr w.heap.size 25 (cA zero8)
  a : Row wr S 25 (cA l)
  lo : g < w.heap.size
  hi : w.heap.size < S
theorem Ge.below {E : Int} {l : List Int} (h : Ge w wr B g S zs i E l) (hb : Below wr.heap.size wr w') : Ge w w' B g S zs i E l :=
  ⟨grown_trans h.grown (grown_any (grown_below hb)), h.rdr.below hb, h.res.below hb h.res.lt, h.a.below hb h.a.lt, h.lo, h.hi⟩
theorem eight_lit8 {z0 z1 z2 z3 z4 z5 z6 z7 : Int} {t : TypeId} (h : Row w g t (cA [z0, z1, z2, z3, z4, z5, z6, z7])) : w.cell? ⟨g, 0, none⟩ = some (.int .i64 z0) ∧ w.cell? ⟨g, 1, none⟩ = some (.int .i64 z1) ∧ w.cell? ⟨g, 2, none⟩ = some (.int .i64 z2) ∧ w.cell? ⟨g, 3, none⟩ = some (.int .i64 z3) ∧ w.cell? ⟨g, 4, none⟩ = some (.int .i64 z4) ∧ w.cell? ⟨g, 5, none⟩ = some (.int .i64 z5) ∧ w.cell? ⟨g, 6, none⟩ = some (.int .i64 z6) ∧ w.cell? ⟨g, 7, none⟩ = some (.int .i64 z7) := h.eight
theorem eight_zero {t : TypeId} (h : Row w g t (cA zero8)) : w.cell? ⟨g, 0, none⟩ = some (.int .i64 0) ∧ w.cell? ⟨g, 1, none⟩ = some (.int .i64 0) ∧ w.cell? ⟨g, 2, none⟩ = some (.int .i64 0) ∧ w.cell? ⟨g, 3, none⟩ = some (.int .i64 0) ∧ w.cell? ⟨g, 4, none⟩ = some (.int .i64 0) ∧ w.cell? ⟨g, 5, none⟩ = some (.int .i64 0) ∧ w.cell? ⟨g, 6, none⟩ = some (.int .i64 0) ∧ w.cell? ⟨g, 7, none⟩ = some (.int .i64 0) := h.eight
theorem Ge.fail {E : Int} {l : List Int} (h : Ge w wr B g S zs i E l) {E' : Int} (hr : Rdr 67 w' B g zs i E') (hg : wr.grownBy w' (some g)) : Ge w w' B g S zs i E' l :=
  have h1 := h.lo
  have h2 := h.hi
  ⟨grown_trans h.grown hg, hr, h.res.grown hg (fun e => by injection e; omega), h.a.grown hg (fun e => by injection e; omega), h1, h2⟩
theorem Ge.done {E : Int} {l : List Int} (h : Ge w wr B g S zs i E l) (v0 v1 v2 v3 v4 v5 v6 v7 : Value) :
    Rdr 67 ((((((((wr.setCell ⟨w.heap.size, 0, none⟩ v0).setCell ⟨w.heap.size, 1, none⟩ v1).setCell ⟨w.heap.size, 2, none⟩ v2).setCell ⟨w.heap.size, 3, none⟩ v3).setCell ⟨w.heap.size, 4, none⟩ v4).setCell ⟨w.heap.size, 5, none⟩ v5).setCell ⟨w.heap.size, 6, none⟩ v6).setCell ⟨w.heap.size, 7, none⟩ v7) B g zs i E ∧
    w.grownBy ((((((((wr.setCell ⟨w.heap.size, 0, none⟩ v0).setCell ⟨w.heap.size, 1, none⟩ v1).setCell ⟨w.heap.size, 2, none⟩ v2).setCell ⟨w.heap.size, 3, none⟩ v3).setCell ⟨w.heap.size, 4, none⟩ v4).setCell ⟨w.heap.size, 5, none⟩ v5).setCell ⟨w.heap.size, 6, none⟩ v6).setCell ⟨w.heap.size, 7, none⟩ v7) (some g) :=
  have h1 := h.lo
  have h3 := h.rdr.low
  have hb := below_eight (Below.refl w.heap.size wr) (Nat.le_refl _) v0 v1 v2 v3 v4 v5 v6 v7
  ⟨h.rdr.keep (fun j hj => hb.block j (by omega)) (hb.block g h1), grown_eight h.grown (Nat.le_refl _) _ _ _ _ _ _ _ _⟩
set_option maxRecDepth 100000 in
set_option maxHeartbeats 4000000 in
theorem get_any (h : Rdr 67 w B g zs i e) : Calls Try.prog 28 #[.pointer (some ⟨g, 0, none⟩)] w fun x w' =>
    x = .returned (.agg (cA (getV zs i e))) ∧ Rdr 67 w' B g zs (stN zs i e 8).1 (getE zs i e) ∧ w.grownBy w' (some g) := by
  have hlt := h.lt
  have hn0 := hide (pnum_any (h.alloc (.cells #[.int .i64 0, .int .i64 0, .int .i64 0, .int .i64 0, .int .i64 0, .int .i64 0, .int .i64 0, .int .i64 0] 25)))
  have HR0 := hide (Row.new w 25 (cA zero8))
  clear h
  go_enter Try.func28, Try.ntmps28
  go_upto_region 4 with (go_at_call 37; refine hn0.out.mono ?_; rintro x w1 ⟨rfl, h1, hg1⟩; have HP := hide (And.intro h1 hg1); clear h1 hg1)
  have hs1 : w.heap.size < w1.heap.size := by have := HP.out.2.size; simp at this; omega
  have ST := hide (show Gt w (w1.alloc (.cells (cA (fill8 (valN zs i e) (1 + 0))) 25)) B g w1.heap.size zs i e (1 + 0) (1 + 0) from
    ⟨grown_alloc (grown_trans (grown_alloc (grown_refl w _) _) HP.out.2) _, HP.out.1.alloc _, (HR0.out.grown HP.out.2 (fun e => by injection e; omega)).alloc _, Row.new _ _ _, hlt, hs1⟩)
  clear HP HR0 hn0
  go_wp2
  go_loopw [11] (fun j wr => ∃ k : Nat, k ≤ 7 ∧ j = .int .i64 k ∧ Hid (Gt w wr B g w1.heap.size zs i e (1 + k) (1 + k))) (fun j _ => 7 - (intOf j).toNat)
  case atStart => exact ⟨0, by omega, rfl, ST⟩
  case round =>
    clear ST
    obtain ⟨k, hk, rfl, J⟩ := hrel
    by_cases hk7 : k < 7
    · have hcon := hide (pnum_any J.out.rdr)
      have hv : rNumV zs (stN zs i e (1 + k)).1 (stN zs i e (1 + k)).2 = valN zs i e (1 + k) := rfl
      rw [hv] at hcon
      clear hv
      have J1 := hide (fun w' (p : Rdr 67 w' B g zs (rNumA zs (stN zs i e (1 + k)).1 (stN zs i e (1 + k)).2) (rNumE zs (stN zs i e (1 + k)).1 (stN zs i e (1 + k)).2)) (q : wr.grownBy w' (some g)) => J.out.num p q)
      clear J
      have k7 : (k : Int) < 7 := by omega
      have k0 : (0 : Int) ≤ (k : Int) := by omega
      go_wp2_with (go_at_call 37; refine hcon.out.mono ?_; rintro x w2 ⟨rfl, h1, hg1⟩; have J2 := hide (J1.out _ h1 hg1); clear J1 hcon h1 hg1; have g0 := J2.out.a.free (1 + k); have f0 := row_cA J2.out.a (1 + k) (by show 1 + k < 8; omega); have J3 := hide (J2.out.put hk7); clear J2)
      go_roundw
      case rel => exact ⟨k + 1, by omega, by go_num, by rw [show 1 + (k + 1) = 1 + k + 1 by omega] at J3 ⊢; exact J3⟩
      case measure => simp [intOf]; omega
    · obtain rfl : k = 7 := by omega
      have J1 : Hid (Gt w wr B g w1.heap.size zs i e 8 8) := J
      clear J
      obtain ⟨z0, z1, z2, z3, z4, z5, z6, z7, hz⟩ := len8 (x := getL zs i e) rfl
      have hok : getOk zs i e = rightA z0 [z1, z2, z3, z4, z5, z6, z7] := by unfold getOk; rw [hz]; rfl
      have hR := hide (fun w => rightA_any z0 z1 z2 z3 z4 z5 z6 z7 w)
      rw [← hok] at hR
      have GE : Hid (Ge w wr B g w1.heap.size zs (stN zs i e 8).1 (stN zs i e 8).2 [z0, z1, z2, z3, z4, z5, z6, z7]) := ⟨J1.out.grown, J1.out.rdr, J1.out.res, hz ▸ J1.out.a, J1.out.lo, J1.out.hi⟩
      have hE : getE zs i e = if getOk zs i e then (stN zs i e 8).2 else rFailE (stN zs i e 8).2 := rfl
      have hV : getV zs i e = if getE zs i e = 0 then [z0, z1, z2, z3, z4, z5, z6, z7] else zero8 := by unfold getV; rw [hz]
      obtain ⟨f0, f1, f2, f3, f4, f5, f6, f7⟩ := eight_lit8 GE.out.a
      clear J1 hok hz
      obtain ⟨V, hVV⟩ : ∃ V, getV zs i e = V := ⟨_, rfl⟩
      obtain ⟨E, hEE⟩ : ∃ E, getE zs i e = E := ⟨_, rfl⟩
      obtain ⟨I, hII⟩ : ∃ I, (stN zs i e 8).1 = I := ⟨_, rfl⟩
      rw [hEE] at hE hV
      rw [hVV] at hV
      rw [hII] at GE
      have HVV := hide hVV
      have HEE := hide hEE
      have HII := hide hII
      clear hVV hEE hII
      generalize getOk zs i e = ok at hE hR
      generalize (stN zs i e 8).2 = E0 at GE hE
      have hlow : w.heap.size < wr.heap.size := by have := GE.out.a.lt; omega
      have HV := hide hV
      clear hV hs1 hlt
      have hF := hide (fun w' (p : Rdr 67 w' B g zs I E0) => pfail_any p)
      have hne : rFailE E0 ≠ 0 := by unfold rFailE; split <;> omega
      cases ok
      · have hE' : E = rFailE E0 := hE
        rw [← hE'] at hF hne
        have t0 : (E == 0) = false := by rw [beq_eq_false_iff_ne]; exact hne
        have HV' : Hid (V = zero8) := by rw [HV.out, if_neg hne]; exact rfl
        clear HV hE hE' hne
        go_wp2_with (first
          | (go_at_call 18; refine (hR.out _).mono ?_; rintro x w2 ⟨rfl, hb⟩; replace GE := hide (GE.out.below hb); clear hb f0 f1 f2 f3 f4 f5 f6 f7)
          | (go_at_call 38; refine (hF.out _ GE.out.rdr).mono ?_; rintro x w3 ⟨rfl, h1, hg1⟩; replace GE := hide (GE.out.fail h1 hg1); clear h1 hg1; obtain ⟨g0, g1, g2, g3, g4, g5, g6, g7⟩ := GE.out.res.free8; obtain ⟨k0, k1, k2, k3, k4, k5, k6, k7⟩ := eight_zero GE.out.res)
          | (go_at_call 29; (with_reducible refine (pwrong_any GE.out.rdr).mono ?_); rintro x w4 ⟨rfl, rfl⟩))
        exact bodyPost_ret (results_at8 Try.results28 rfl (row_eight GE.out.res _ _ _ _ _ _ _ _)) rfl ⟨by rw [HVV.out, HV'.out]; rfl, by rw [HII.out, HEE.out]; exact GE.out.done _ _ _ _ _ _ _ _⟩
      · have hE' : E = E0 := hE
        subst hE'
        clear hE hF hne
        by_cases hz : E = 0
        · have t0 : (E == 0) = true := by rw [hz]; rfl
          have HV' : Hid (V = [z0, z1, z2, z3, z4, z5, z6, z7]) := by rw [HV.out, if_pos hz]; exact rfl
          clear HV hz
          go_wp2_with (first
            | (go_at_call 18; refine (hR.out _).mono ?_; rintro x w2 ⟨rfl, hb⟩; replace GE := hide (GE.out.below hb); clear hb f0 f1 f2 f3 f4 f5 f6 f7; obtain ⟨g0, g1, g2, g3, g4, g5, g6, g7⟩ := GE.out.res.free8; obtain ⟨f0, f1, f2, f3, f4, f5, f6, f7⟩ := eight_lit8 GE.out.a; obtain ⟨k0, k1, k2, k3, k4, k5, k6, k7⟩ := eight_zero GE.out.res)
            | (go_at_call 29; (with_reducible refine (pwrong_any GE.out.rdr).mono ?_); rintro x w4 ⟨rfl, rfl⟩))
          exact bodyPost_ret (results_at8 Try.results28 rfl (row_eight GE.out.res _ _ _ _ _ _ _ _)) rfl ⟨by rw [HVV.out, HV'.out]; rfl, by rw [HII.out, HEE.out]; exact GE.out.done _ _ _ _ _ _ _ _⟩
        · have t0 : (E == 0) = false := by rw [beq_eq_false_iff_ne]; exact hz
          have HV' : Hid (V = zero8) := by rw [HV.out, if_neg hz]; exact rfl
          clear HV hz
          go_wp2_with (first
            | (go_at_call 18; refine (hR.out _).mono ?_; rintro x w2 ⟨rfl, hb⟩; replace GE := hide (GE.out.below hb); clear hb f0 f1 f2 f3 f4 f5 f6 f7; obtain ⟨g0, g1, g2, g3, g4, g5, g6, g7⟩ := GE.out.res.free8; obtain ⟨k0, k1, k2, k3, k4, k5, k6, k7⟩ := eight_zero GE.out.res)
            | (go_at_call 29; (with_reducible refine (pwrong_any GE.out.rdr).mono ?_); rintro x w4 ⟨rfl, rfl⟩))
          exact bodyPost_ret (results_at8 Try.results28 rfl (row_eight GE.out.res _ _ _ _ _ _ _ _)) rfl ⟨by rw [HVV.out, HV'.out]; rfl, by rw [HII.out, HEE.out]; exact GE.out.done _ _ _ _ _ _ _ _⟩
end
end Go.Proofs.Ytpngcocmjbkfgaa
