/- Get of package deps, at a reader: its contract. No condition. -/
import Derived.Test.YtlnpfaoeockoiaaWb
import Derived.Test.YtlnpfaoeockoiaaWd
import Derived.StillTailTactics
import Derived.Test.YtlnpfaoeockoiaaWa
import Derived.Deep.AppendLies
import Derived.Deep.DeepAppendWide
import Derived.Test.YtlnpfaoeockoiaaWc
import Derived.LoopTactic
namespace Go.Proofs.Ytlnpfaoeockoiaa
set_option maxRecDepth 100000
open Go.RowKit
/-- The first n of the numbers that f tells, then zeros. -/
def fill8 (f : Nat → Int) (n : Nat) : List Int := tab8 fun j => if j < n then f j else 0
theorem set_fill (f : Nat → Int) {k : Nat} (h : k < 7) : (cA (fill8 f (1 + k))).setIfInBounds (1 + k) (.int .i64 (f (1 + k))) = cA (fill8 f (1 + (k + 1))) := by
  match k, h with
  | 0, _ => rfl
  | 1, _ => rfl
  | 2, _ => rfl
  | 3, _ => rfl
  | 4, _ => rfl
  | 5, _ => rfl
  | 6, _ => rfl
theorem grown_own {a b : World} {row : Option Nat} (h : a.grownBy b row) {g : Nat} (hg : a.heap.size ≤ g) (i : Nat) (u : Value) : a.grownBy (b.setCell ⟨g, i, none⟩ u) row :=
  ⟨h.os, h.tape, h.output, by have := h.size; simpa [World.setCell] using this, fun k hk hr => (Below.heap_setCell b ⟨g, i, none⟩ u k (by show k ≠ g; omega)).trans (h.block k hk hr)⟩
theorem grown_eight {a b : World} {row : Option Nat} (h : a.grownBy b row) {g : Nat} (hg : a.heap.size ≤ g) (v0 v1 v2 v3 v4 v5 v6 v7 : Value) :
    a.grownBy ((((((((b.setCell ⟨g, 0, none⟩ v0).setCell ⟨g, 1, none⟩ v1).setCell ⟨g, 2, none⟩ v2).setCell ⟨g, 3, none⟩ v3).setCell ⟨g, 4, none⟩ v4).setCell ⟨g, 5, none⟩ v5).setCell ⟨g, 6, none⟩ v6).setCell ⟨g, 7, none⟩ v7) row :=
  grown_own (grown_own (grown_own (grown_own (grown_own (grown_own (grown_own (grown_own h hg _ _) hg _ _) hg _ _) hg _ _) hg _ _) hg _ _) hg _ _) hg _ _
/-- While it reads: n numbers are read, m of them stand in the answer's block S. -/
structure Gt (w wr : World) (B g S : Nat) (zs : List Int) (i : Nat) (e : Int) (n m : Nat) : Prop where
  grown : w.grownBy wr (some g)
  rdr : Rdr 99 wr B g zs (stN zs i e n).1 (stN zs i e n).2
  res : Row wr w.heap.size 33 (cA zero8)
  a : Row wr S 33 (cA (fill8 (valN zs i e) m))
  lo : g < w.heap.size
  hi : w.heap.size < S
section
variable {w wr w' : World} {B g S : Nat} {zs : List Int} {i : Nat} {e : Int} {n m : Nat}
theorem Gt.num (h : Gt w wr B g S zs i e n m) (hr : Rdr 99 w' B g zs (rNumA zs (stN zs i e n).1 (stN zs i e n).2) (rNumE zs (stN zs i e n).1 (stN zs i e n).2)) (hg : wr.grownBy w' (some g)) : Gt w w' B g S zs i e (n + 1) m :=
  have h1 := h.lo
  have h2 := h.hi
  ⟨grown_trans h.grown hg, by rw [stN_last]; exact hr, h.res.grown hg (fun e => by injection e; omega), h.a.grown hg (fun e => by injection e; omega), h1, h2⟩
theorem Gt.put {k : Nat} (h : Gt w wr B g S zs i e n (1 + k)) (hk : k < 7) : Gt w (wr.setCell ⟨S, 1 + k, none⟩ (.int .i64 (valN zs i e (1 + k)))) B g S zs i e n (1 + (k + 1)) :=
  have h1 := h.lo
  have h2 := h.hi
  have h3 := h.rdr.low
  have hf : ∀ j, j < S → (wr.setCell ⟨S, 1 + k, none⟩ (.int .i64 (valN zs i e (1 + k)))).heap[j]? = wr.heap[j]? := fun j hj => Below.heap_setCell _ _ _ _ (by show j ≠ S; omega)
  ⟨grown_own h.grown (by omega) _ _, h.rdr.keep (fun j hj => hf j (by omega)) (hf g (by omega)), (hf _ h2).trans h.res, set_fill _ hk ▸ h.a.put (1 + k) _, h1, h2⟩
theorem Gt.below (h : Gt w wr B g S zs i e n m) (hb : Below wr.heap.size wr w') : Gt w w' B g S zs i e n m :=
  ⟨grown_trans h.grown (grown_any (grown_below hb)), h.rdr.below hb, h.res.below hb h.res.lt, h.a.below hb h.a.lt, h.lo, h.hi⟩
/-- At its end. -/
structure Ge (w wr : World) (B g S : Nat) (zs : List Int) (i : Nat) (E : Int) (l : List Int) : Prop where
  grown : w.grownBy wr (some g)
  rdr : Rdr 99 wr B g zs i E
  res : Row wr w.heap.size 33 (cA zero8)
  a : Row wr S 33 (cA l)
  lo : g < w.heap.size
  hi : w.heap.size < S
theorem Ge.below {E : Int} {l : List Int} (h : Ge w wr B g S zs i E l) (hb : Below wr.heap.size wr w') : Ge w w' B g S zs i E l :=
  ⟨grown_trans h.grown (grown_any (grown_below hb)), h.rdr.below hb, h.res.below hb h.res.lt, h.a.below hb h.a.lt, h.lo, h.hi⟩
theorem eight_lit8 {z0 z1 z2 z3 z4 z5 z6 z7 : Int} {t : TypeId} (h : Row w g t (cA [z0, z1, z2, z3, z4, z5, z6, z7])) : w.cell? ⟨g, 0, none⟩ = some (.int .i64 z0) ∧ w.cell? ⟨g, 1, none⟩ = some (.int .i64 z1) ∧ w.cell? ⟨g, 2, none⟩ = some (.int .i64 z2) ∧ w.cell? ⟨g, 3, none⟩ = some (.int .i64 z3) ∧ w.cell? ⟨g, 4, none⟩ = some (.int .i64 z4) ∧ w.cell? ⟨g, 5, none⟩ = some (.int .i64 z5) ∧ w.cell? ⟨g, 6, none⟩ = some (.int .i64 z6) ∧ w.cell? ⟨g, 7, none⟩ = some (.int .i64 z7) := h.eight
theorem eight_zero {t : TypeId} (h : Row w g t (cA zero8)) : w.cell? ⟨g, 0, none⟩ = some (.int .i64 0) ∧ w.cell? ⟨g, 1, none⟩ = some (.int .i64 0) ∧ w.cell? ⟨g, 2, none⟩ = some (.int .i64 0) ∧ w.cell? ⟨g, 3, none⟩ = some (.int .i64 0) ∧ w.cell? ⟨g, 4, none⟩ = some (.int .i64 0) ∧ w.cell? ⟨g, 5, none⟩ = some (.int .i64 0) ∧ w.cell? ⟨g, 6, none⟩ = some (.int .i64 0) ∧ w.cell? ⟨g, 7, none⟩ = some (.int .i64 0) := h.eight
theorem Ge.fail {E : Int} {l : List Int} (h : Ge w wr B g S zs i E l) {E' : Int} (hr : Rdr 99 w' B g zs i E') (hg : wr.grownBy w' (some g)) : Ge w w' B g S zs i E' l :=
  have h1 := h.lo
  have h2 := h.hi
  ⟨grown_trans h.grown hg, hr, h.res.grown hg (fun e => by injection e; omega), h.a.grown hg (fun e => by injection e; omega), h1, h2⟩
theorem Ge.done {E : Int} {l : List Int} (h : Ge w wr B g S zs i E l) (v0 v1 v2 v3 v4 v5 v6 v7 : Value) :
    Rdr 99 ((((((((wr.setCell ⟨w.heap.size, 0, none⟩ v0).setCell ⟨w.heap.size, 1, none⟩ v1).setCell ⟨w.heap.size, 2, none⟩ v2).setCell ⟨w.heap.size, 3, none⟩ v3).setCell ⟨w.heap.size, 4, none⟩ v4).setCell ⟨w.heap.size, 5, none⟩ v5).setCell ⟨w.heap.size, 6, none⟩ v6).setCell ⟨w.heap.size, 7, none⟩ v7) B g zs i E ∧
    w.grownBy ((((((((wr.setCell ⟨w.heap.size, 0, none⟩ v0).setCell ⟨w.heap.size, 1, none⟩ v1).setCell ⟨w.heap.size, 2, none⟩ v2).setCell ⟨w.heap.size, 3, none⟩ v3).setCell ⟨w.heap.size, 4, none⟩ v4).setCell ⟨w.heap.size, 5, none⟩ v5).setCell ⟨w.heap.size, 6, none⟩ v6).setCell ⟨w.heap.size, 7, none⟩ v7) (some g) :=
  have h1 := h.lo
  have h3 := h.rdr.low
  have hb := below_eight (Below.refl w.heap.size wr) (Nat.le_refl _) v0 v1 v2 v3 v4 v5 v6 v7
  ⟨h.rdr.keep (fun j hj => hb.block j (by omega)) (hb.block g h1), grown_eight h.grown (Nat.le_refl _) _ _ _ _ _ _ _ _⟩
set_option maxRecDepth 100000 in
set_option maxHeartbeats 4000000 in
theorem d_get_any (h : Rdr 99 w B g zs i e) : Calls Try.prog 79 #[.pointer (some ⟨g, 0, none⟩)] w fun x w' =>
    x = .returned (.agg (cA (d_getV zs i e))) ∧ Rdr 99 w' B g zs (stN zs i e 8).1 (d_getE zs i e) ∧ w.grownBy w' (some g) := by
  have hlt := h.lt
  have hn0 := hide (pnum_any (h.alloc (.cells #[.int .i64 0, .int .i64 0, .int .i64 0, .int .i64 0, .int .i64 0, .int .i64 0, .int .i64 0, .int .i64 0] 33)))
  have HR0 := hide (Row.new w 33 (cA zero8))
  clear h
  go_enter Try.func79, Try.ntmps79
  go_upto_region 4 with (go_at_call 36; refine hn0.out.mono ?_; rintro x w1 ⟨rfl, h1, hg1⟩; have HP := hide (And.intro h1 hg1); clear h1 hg1)
  have hs1 : w.heap.size < w1.heap.size := by have := HP.out.2.size; simp at this; omega
  have ST := hide (show Gt w (w1.alloc (.cells (cA (fill8 (valN zs i e) (1 + 0))) 33)) B g w1.heap.size zs i e (1 + 0) (1 + 0) from
    ⟨grown_alloc (grown_trans (grown_alloc (grown_refl w _) _) HP.out.2) _, HP.out.1.alloc _, (HR0.out.grown HP.out.2 (fun e => by injection e; omega)).alloc _, Row.new _ _ _, hlt, hs1⟩)
  clear HP HR0 hn0
  go_wp2
  go_loopw [11] (fun j wr => ∃ k : Nat, k ≤ 7 ∧ j = .int .i64 k ∧ Hid (Gt w wr B g w1.heap.size zs i e (1 + k) (1 + k))) (fun j _ => 7 - (intOf j).toNat)
  case atStart => exact ⟨0, by omega, rfl, ST⟩
  case round =>
    clear ST
    obtain ⟨k, hk, rfl, J⟩ := hrel
    by_cases hk7 : k < 7
    · have hcon := hide (pnum_any J.out.rdr)
      have hv : rNumV zs (stN zs i e (1 + k)).1 (stN zs i e (1 + k)).2 = valN zs i e (1 + k) := rfl
      rw [hv] at hcon
      clear hv
      have J1 := hide (fun w' (p : Rdr 99 w' B g zs (rNumA zs (stN zs i e (1 + k)).1 (stN zs i e (1 + k)).2) (rNumE zs (stN zs i e (1 + k)).1 (stN zs i e (1 + k)).2)) (q : wr.grownBy w' (some g)) => J.out.num p q)
      clear J
      have k7 : (k : Int) < 7 := by omega
      have k0 : (0 : Int) ≤ (k : Int) := by omega
      go_wp2_with (go_at_call 36; refine hcon.out.mono ?_; rintro x w2 ⟨rfl, h1, hg1⟩; have J2 := hide (J1.out _ h1 hg1); clear J1 hcon h1 hg1; have g0 := J2.out.a.free (1 + k); have f0 := row_cA J2.out.a (1 + k) (by show 1 + k < 8; omega); have J3 := hide (J2.out.put hk7); clear J2)
      go_roundw
      case rel => exact ⟨k + 1, by omega, by go_num, by rw [show 1 + (k + 1) = 1 + k + 1 by omega] at J3 ⊢; exact J3⟩
      case measure => simp [intOf]; omega
    · obtain rfl : k = 7 := by omega
      have J1 : Hid (Gt w wr B g w1.heap.size zs i e 8 8) := J
      clear J
      obtain ⟨z0, z1, z2, z3, z4, z5, z6, z7, hz⟩ := len8 (x := getL zs i e) rfl
      have hok : getOk zs i e = rightA z0 [z1, z2, z3, z4, z5, z6, z7] := by unfold getOk; rw [hz]; rfl
      have hR := hide (fun w => rightA_any z0 z1 z2 z3 z4 z5 z6 z7 w)
      rw [← hok] at hR
      have GE : Hid (Ge w wr B g w1.heap.size zs (stN zs i e 8).1 (stN zs i e 8).2 [z0, z1, z2, z3, z4, z5, z6, z7]) := ⟨J1.out.grown, J1.out.rdr, J1.out.res, hz ▸ J1.out.a, J1.out.lo, J1.out.hi⟩
      have hE : d_getE zs i e = if getOk zs i e then (stN zs i e 8).2 else rFailE (stN zs i e 8).2 := rfl
      have hV : d_getV zs i e = if d_getE zs i e = 0 then [z0, z1, z2, z3, z4, z5, z6, z7] else zero8 := by unfold d_getV; rw [hz]
      obtain ⟨f0, f1, f2, f3, f4, f5, f6, f7⟩ := eight_lit8 GE.out.a
      clear J1 hok hz
      obtain ⟨V, hVV⟩ : ∃ V, d_getV zs i e = V := ⟨_, rfl⟩
      obtain ⟨E, hEE⟩ : ∃ E, d_getE zs i e = E := ⟨_, rfl⟩
      obtain ⟨I, hII⟩ : ∃ I, (stN zs i e 8).1 = I := ⟨_, rfl⟩
      rw [hEE] at hE hV
      rw [hVV] at hV
      rw [hII] at GE
      have HVV := hide hVV
      have HEE := hide hEE
      have HII := hide hII
      clear hVV hEE hII
      generalize getOk zs i e = ok at hE hR
      generalize (stN zs i e 8).2 = E0 at GE hE
      have hlow : w.heap.size < wr.heap.size := by have := GE.out.a.lt; omega
      have HV := hide hV
      clear hV hs1 hlt
      have hF := hide (fun w' (p : Rdr 99 w' B g zs I E0) => pfail_any p)
      have hne : rFailE E0 ≠ 0 := by unfold rFailE; split <;> omega
      cases ok
      · have hE' : E = rFailE E0 := hE
        rw [← hE'] at hF hne
        have t0 : (E == 0) = false := by rw [beq_eq_false_iff_ne]; exact hne
        have HV' : Hid (V = zero8) := by rw [HV.out, if_neg hne]; exact rfl
        clear HV hE hE' hne
        go_wp2_with (first
          | (go_at_call 50; refine (hR.out _).mono ?_; rintro x w2 ⟨rfl, hb⟩; replace GE := hide (GE.out.below hb); clear hb f0 f1 f2 f3 f4 f5 f6 f7)
          | (go_at_call 70; refine (hF.out _ GE.out.rdr).mono ?_; rintro x w3 ⟨rfl, h1, hg1⟩; replace GE := hide (GE.out.fail h1 hg1); clear h1 hg1; obtain ⟨g0, g1, g2, g3, g4, g5, g6, g7⟩ := GE.out.res.free8; obtain ⟨k0, k1, k2, k3, k4, k5, k6, k7⟩ := eight_zero GE.out.res)
          | (go_at_call 27; (with_reducible refine (pwrong_any GE.out.rdr).mono ?_); rintro x w4 ⟨rfl, rfl⟩))
        exact bodyPost_ret (results_at8 Try.results79 rfl (row_eight GE.out.res _ _ _ _ _ _ _ _)) rfl ⟨by rw [HVV.out, HV'.out]; rfl, by rw [HII.out, HEE.out]; exact GE.out.done _ _ _ _ _ _ _ _⟩
      · have hE' : E = E0 := hE
        subst hE'
        clear hE hF hne
        by_cases hz : E = 0
        · have t0 : (E == 0) = true := by rw [hz]; rfl
          have HV' : Hid (V = [z0, z1, z2, z3, z4, z5, z6, z7]) := by rw [HV.out, if_pos hz]; exact rfl
          clear HV hz
          go_wp2_with (first
            | (go_at_call 50; refine (hR.out _).mono ?_; rintro x w2 ⟨rfl, hb⟩; replace GE := hide (GE.out.below hb); clear hb f0 f1 f2 f3 f4 f5 f6 f7; obtain ⟨g0, g1, g2, g3, g4, g5, g6, g7⟩ := GE.out.res.free8; obtain ⟨f0, f1, f2, f3, f4, f5, f6, f7⟩ := eight_lit8 GE.out.a; obtain ⟨k0, k1, k2, k3, k4, k5, k6, k7⟩ := eight_zero GE.out.res)
            | (go_at_call 27; (with_reducible refine (pwrong_any GE.out.rdr).mono ?_); rintro x w4 ⟨rfl, rfl⟩))
          exact bodyPost_ret (results_at8 Try.results79 rfl (row_eight GE.out.res _ _ _ _ _ _ _ _)) rfl ⟨by rw [HVV.out, HV'.out]; rfl, by rw [HII.out, HEE.out]; exact GE.out.done _ _ _ _ _ _ _ _⟩
        · have t0 : (E == 0) = false := by rw [beq_eq_false_iff_ne]; exact hz
          have HV' : Hid (V = zero8) := by rw [HV.out, if_neg hz]; exact rfl
          clear HV hz
          go_wp2_with (first
            | (go_at_call 50; refine (hR.out _).mono ?_; rintro x w2 ⟨rfl, hb⟩; replace GE := hide (GE.out.below hb); clear hb f0 f1 f2 f3 f4 f5 f6 f7; obtain ⟨g0, g1, g2, g3, g4, g5, g6, g7⟩ := GE.out.res.free8; obtain ⟨k0, k1, k2, k3, k4, k5, k6, k7⟩ := eight_zero GE.out.res)
            | (go_at_call 27; (with_reducible refine (pwrong_any GE.out.rdr).mono ?_); rintro x w4 ⟨rfl, rfl⟩))
          exact bodyPost_ret (results_at8 Try.results79 rfl (row_eight GE.out.res _ _ _ _ _ _ _ _)) rfl ⟨by rw [HVV.out, HV'.out]; rfl, by rw [HII.out, HEE.out]; exact GE.out.done _ _ _ _ _ _ _ _⟩
end
end Go.Proofs.Ytlnpfaoeockoiaa
/- What bytes are taken as a cell, a letter are its bytes; no beginning of a letter's bytes is one; two letters' bytes, in plain words. No condition: nothing here speaks of a program. -/
namespace Go.Proofs.Ytlnpfaoeockoiaa
open Go.RowKit
/-! ### An error is never nought -/
theorem nz_chk {α : Type} {b : α → Bool} {x : Rdm α} (h : Nz x) : Nz (dChk b x) := h.bnd fun a j => by
  split
  · exact Nz.ok _
  · exact fun e h => by cases h; decide
theorem nz_bal (zs : List Int) (i : Nat) : Nz (dBal zs i) := (nz_num _ _).bnd fun _ _ => (nz_num _ _).bnd fun _ _ => Nz.ok _
theorem nz_nums (zs : List Int) : ∀ (n i : Nat), Nz (dNums zs n i)
  | 0, _ => Nz.ok _
  | n + 1, _ => (nz_num _ _).bnd fun _ j => (nz_nums zs n j).bnd fun _ _ => Nz.ok _
theorem nz_cm0 (zs : List Int) (i : Nat) : Nz (dCm0 zs i) := (nz_num _ _).bnd fun k j => by
  split
  · exact Nz.ok _
  · refine (nz_num _ _).bnd fun _ _ => (nz_num _ _).bnd fun _ _ => (nz_txt _ _ _).bnd fun _ _ => ?_
    split
    · exact (nz_txt _ _ _).bnd fun _ _ => Nz.ok _
    · split
      · exact (nz_txt _ _ _).bnd fun _ _ => (nz_txt _ _ _).bnd fun _ _ => Nz.ok _
      · split
        · exact (nz_txt _ _ _).bnd fun _ _ => Nz.ok _
        · exact Nz.ok _
theorem nz_cm (zs : List Int) (i : Nat) : Nz (dCm zs i) := nz_chk (nz_cm0 _ _)
theorem nz_at (zs : List Int) (i : Nat) : Nz (dAt zs i) := nz_chk (nz_nums _ _ _)
theorem nz_cl (zs : List Int) (i : Nat) : Nz (dCl zs i) := nz_chk ((nz_num _ _).bnd fun st j => (nz_bal _ _).bnd fun _ _ => by
  split
  · exact Nz.ok _
  · exact (nz_bal _ _).bnd fun _ _ => (nz_cm _ _).bnd fun _ _ => (nz_at _ _).bnd fun _ _ => (nz_flg _ _).bnd fun _ _ => Nz.ok _)
theorem nz_opt {α : Type} {b : Bool} {z : α} {x : Rdm α} {i : Nat} (h : Nz x) : Nz (dOpt b z x i) := by
  unfold dOpt
  cases b
  · exact Nz.ok _
  · exact h
theorem nz_kind (zs : List Int) (i : Nat) : Nz (dKind zs i) := (nz_num _ _).bnd fun _ _ => (nz_num _ _).bnd fun _ _ => (nz_num _ _).bnd fun _ _ => by
  split
  · exact Nz.ok _
  · exact fun e h => by cases h; decide
theorem nz_lt0 (zs : List Int) (i : Nat) : Nz (dLt0 zs i) := (nz_kind _ _).bnd fun _ _ => (nz_opt (nz_bal _ _)).bnd fun _ _ => (nz_opt (nz_bal _ _)).bnd fun _ _ => (nz_opt (nz_cm _ _)).bnd fun _ _ =>
  (nz_opt (nz_at _ _)).bnd fun _ _ => (nz_opt (nz_cl _ _)).bnd fun _ _ => (nz_opt (nz_nums _ _ _)).bnd fun _ _ => (nz_opt (nz_txt _ _ _)).bnd fun _ _ => Nz.ok _
/-! ### Back -/
theorem chk_back {α : Type} {b : α → Bool} {x : Rdm α} {a : α} {j : Nat} (h : dChk b x = .ok (a, j)) : x = .ok (a, j) ∧ b a = true := by
  unfold dChk at h
  obtain ⟨a', j', e, h⟩ := bnd_ok h
  split at h
  · rename_i hb
    cases h
    exact ⟨e, hb⟩
  · cases h
section
variable {zs : List Int} {i j : Nat}
theorem bal_back (hz : Octets zs) {b : Int × Int} (h : dBal zs i = .ok (b, j)) : zs.drop i = encB b ++ zs.drop j := by
  unfold dBal at h
  obtain ⟨e, j1, e1, h⟩ := bnd_ok h
  obtain ⟨r, j2, e2, h⟩ := bnd_ok h
  cases h
  unfold encB
  rw [(mnum_back hz e1).1, (mnum_back hz e2).1, List.append_assoc]
theorem nums_back (hz : Octets zs) : ∀ (n : Nat) {i j : Nat} {l : List Int}, dNums zs n i = .ok (l, j) → zs.drop i = encN l ++ zs.drop j ∧ l.length = n
  | 0, i, j, l, h => by cases h; exact ⟨rfl, rfl⟩
  | n + 1, i, j, l, h => by
    unfold dNums at h
    obtain ⟨x, j1, e1, h⟩ := bnd_ok h
    obtain ⟨r, j2, e2, h⟩ := bnd_ok h
    cases h
    obtain ⟨t2, l2⟩ := nums_back hz n e2
    exact ⟨by rw [(mnum_back hz e1).1, t2, encN_cons, List.append_assoc], by rw [List.length_cons, l2]⟩
theorem cm0_back (hz : Octets zs) {x : Cm} (h : dCm0 zs i = .ok (x, j)) : zs.drop i = bytesC x ++ zs.drop j := by
  unfold dCm0 at h
  obtain ⟨k, j1, e1, h⟩ := bnd_ok h
  have t1 := (mnum_back hz e1).1
  split at h
  · rename_i h0
    cases h
    subst h0
    exact t1
  · rename_i h0
    obtain ⟨c, j2, e2, h⟩ := bnd_ok h
    obtain ⟨q, j3, e3, h⟩ := bnd_ok h
    obtain ⟨a, j4, e4, h⟩ := bnd_ok h
    have t2 := (mnum_back hz e2).1
    have t3 := (mnum_back hz e3).1
    have t4 := mtxt_back hz e4
    split at h
    · rename_i g2
      obtain ⟨v, j5, e5, h⟩ := bnd_ok h
      cases h
      unfold bytesC tailC
      rw [if_neg h0, if_pos g2, t1, t2, t3, t4, mtxt_back hz e5]
      simp only [List.append_assoc]
    · rename_i g2
      split at h
      · rename_i g4
        obtain ⟨o, j5, e5, h⟩ := bnd_ok h
        obtain ⟨v, j6, e6, h⟩ := bnd_ok h
        cases h
        unfold bytesC tailC
        rw [if_neg h0, if_neg g2, if_pos g4, t1, t2, t3, t4, mtxt_back hz e5, mtxt_back hz e6]
        simp only [List.append_assoc]
      · rename_i g4
        split at h
        · rename_i g5
          obtain ⟨b, j5, e5, h⟩ := bnd_ok h
          cases h
          unfold bytesC tailC
          rw [if_neg h0, if_neg g2, if_neg g4, if_pos g5, t1, t2, t3, t4, mtxt_back hz e5]
          simp only [List.append_assoc]
        · rename_i g5
          cases h
          unfold bytesC tailC
          rw [if_neg h0, if_neg g2, if_neg g4, if_neg g5, t1, t2, t3, t4]
          simp only [List.append_assoc, List.nil_append]
theorem cm_back (hz : Octets zs) {x : Cm} (h : dCm zs i = .ok (x, j)) : zs.drop i = packC x ++ zs.drop j ∧ rightC x = true := by
  obtain ⟨h, hr⟩ := chk_back h
  refine ⟨?_, hr⟩
  unfold packC
  rw [if_pos hr]
  exact cm0_back hz h
theorem at_back (hz : Octets zs) {a : List Int} (h : dAt zs i = .ok (a, j)) : zs.drop i = encN a ++ zs.drop j ∧ a.length = 8 := nums_back hz 8 (chk_back h).1
theorem cl_back (hz : Octets zs) {x : Cl} (h : dCl zs i = .ok (x, j)) : zs.drop i = encX x ++ zs.drop j ∧ x.a.length = 8 ∧ rightCl x = true := by
  obtain ⟨h, hr⟩ := chk_back h
  unfold dCl0 at h
  obtain ⟨st, j1, e1, h⟩ := bnd_ok h
  obtain ⟨p, j2, e2, h⟩ := bnd_ok h
  have t1 := (mnum_back hz e1).1
  have t2 := bal_back hz e2
  split at h
  · rename_i h0
    cases h
    refine ⟨?_, rfl, hr⟩
    unfold encX encT
    rw [if_pos h0, t1, t2]
    simp only [List.append_assoc, List.nil_append]
  · rename_i h0
    obtain ⟨v, j3, e3, h⟩ := bnd_ok h
    obtain ⟨c, j4, e4, h⟩ := bnd_ok h
    obtain ⟨a, j5, e5, h⟩ := bnd_ok h
    obtain ⟨s, j6, e6, h⟩ := bnd_ok h
    cases h
    obtain ⟨t5, l5⟩ := at_back hz e5
    refine ⟨?_, l5, hr⟩
    unfold encX encT
    rw [if_neg h0, t1, t2, bal_back hz e3, (cm_back hz e4).1, t5, mflg_back hz e6]
    simp only [List.append_assoc]
theorem opt_back {α : Type} {b : Bool} {z a : α} {x : Rdm α} {e : α → List Int} (hx : x = .ok (a, j) → zs.drop i = e a ++ zs.drop j) (h : dOpt b z x i = .ok (a, j)) : zs.drop i = (if b then e a else []) ++ zs.drop j := by
  unfold dOpt at h
  cases b
  · cases h; rfl
  · exact hx h
theorem opt_zero {α : Type} {b : Bool} {z a : α} {x : Rdm α} {P : α → Prop} (hz : P z) (hx : x = .ok (a, j) → P a) (h : dOpt b z x i = .ok (a, j)) : P a := by
  unfold dOpt at h
  cases b
  · cases h; exact hz
  · exact hx h
theorem lt0_back (hz : Octets zs) {m : Lt} (h : dLt0 zs i = .ok (m, j)) : zs.drop i = encM m ++ zs.drop j ∧ LtWf m := by
  unfold dLt0 at h
  obtain ⟨⟨k, f, t⟩, j1, e1, h⟩ := bnd_ok h
  obtain ⟨i', j2, e2, h⟩ := bnd_ok h
  obtain ⟨b, j3, e3, h⟩ := bnd_ok h
  obtain ⟨c, j4, e4, h⟩ := bnd_ok h
  obtain ⟨a, j5, e5, h⟩ := bnd_ok h
  obtain ⟨x, j6, e6, h⟩ := bnd_ok h
  obtain ⟨d, j7, e7, h⟩ := bnd_ok h
  obtain ⟨z, j8, e8, h⟩ := bnd_ok h
  cases h
  have t1 : zs.drop i = num7 k ++ (num7 f ++ (num7 t ++ zs.drop j1)) := by
    unfold dKind at e1
    obtain ⟨k', i1, g1, e1⟩ := bnd_ok e1
    obtain ⟨f', i2, g2, e1⟩ := bnd_ok e1
    obtain ⟨t', i3, g3, e1⟩ := bnd_ok e1
    split at e1
    · cases e1
      rw [(mnum_back hz g1).1, (mnum_back hz g2).1, (mnum_back hz g3).1]
    · cases e1
  have t2 := opt_back (e := encB) (bal_back hz) e2
  have t3 := opt_back (e := encB) (bal_back hz) e3
  have t4 := opt_back (e := packC) (fun h => (cm_back hz h).1) e4
  have t5 := opt_back (e := encN) (fun h => (at_back hz h).1) e5
  have t6 := opt_back (e := encX) (fun h => (cl_back hz h).1) e6
  have t7 := opt_back (e := encN) (fun h => (nums_back hz 7 h).1) e7
  have t8 := opt_back (e := text7) (mtxt_back hz) e8
  refine ⟨?_, ?_, ?_, ?_⟩
  · unfold encM encR
    dsimp only at t2 t3 t4 t5 t6 t7 t8 ⊢
    rw [t1, t2, t3, t4, t5, t6, t7, t8]
    simp only [List.append_assoc]
  · exact opt_zero (P := fun a => a.length = 8) rfl (fun h => (at_back hz h).2) e5
  · exact opt_zero (P := fun x : Cl => x.a.length = 8) rfl (fun h => (cl_back hz h).2.1) e6
  · exact opt_zero (P := fun d => d.length = 7) rfl (fun h => (nums_back hz 7 h).2) e7
/-- P15.6: what Get takes is Put of it. -/
theorem letter_back (hz : Octets zs) {m : Lt} (h : decLt zs = (m, 0)) : encLt m = zs ∧ LtWf m ∧ rightLt m = true := by
  unfold decLt at h
  split at h
  · rename_i e he
    have := nz_lt0 zs 0 e he
    injection h with _ h
    exact absurd h this
  · rename_i m' j ht
    split at h
    · injection h with _ h
      cases h
    · rename_i hj
      split at h
      · rename_i hr
        injection h with h _
        subst h
        obtain ⟨t, w⟩ := lt0_back hz ht
        refine ⟨?_, w, hr⟩
        have hn : zs.drop j = [] := List.drop_of_length_le (by omega)
        rw [List.drop_zero, hn, List.append_nil] at t
        unfold encLt
        rw [if_pos hr, t]
      · injection h with _ h
        cases h
theorem letter_right (hz : Octets zs) : decLt zs = (zeroLt, (decLt zs).2) ∧ (decLt zs).2 ≠ 0 ∨ ∃ m, decLt zs = (m, 0) ∧ encLt m = zs ∧ LtWf m ∧ rightLt m = true := by
  by_cases h : (decLt zs).2 = 0
  · right
    have h' : decLt zs = ((decLt zs).1, 0) := by rw [← h]
    exact ⟨_, h', letter_back hz h'⟩
  · left
    refine ⟨?_, h⟩
    unfold decLt at h ⊢
    cases hx : dLt0 zs 0 with
    | error e => rfl
    | ok v =>
      obtain ⟨m, j⟩ := v
      rw [hx] at h
      dsimp only at h ⊢
      by_cases h1 : j < zs.length
      · rw [if_pos h1]
      · rw [if_neg h1] at h ⊢
        by_cases h2 : rightLt m = true
        · rw [if_pos h2] at h
          exact absurd rfl h
        · rw [if_neg h2]
end
/-! ### No beginning is one; two letters' bytes -/
theorem encLt_right {m : Lt} (h : rightLt m = true) : encLt m = encM m := by unfold encLt; rw [if_pos h]
/-- If a right letter's bytes begin another one's, both are one. -/
theorem letter_front {a b : Lt} {ys : List Int} (ha : rightLt a = true) (hb : rightLt b = true) (wa : LtWf a) (wb : LtWf b) (h : encLt b = encLt a ++ ys) : a = b ∧ ys = [] := by
  rw [encLt_right ha, encLt_right hb] at h
  have t1 := lt0_there (zs := encM b) (ys := ys) (i := 0) ha wa (by rw [List.drop_zero]; exact h)
  have t2 := lt0_there (zs := encM b) (ys := []) (i := 0) hb wb (by rw [List.drop_zero, List.append_nil])
  rw [t1] at t2
  injection t2 with t2
  injection t2 with e1 e2
  refine ⟨e1, ?_⟩
  rw [h, List.length_append] at e2
  exact List.length_eq_zero_iff.1 (by omega)
theorem encLt_pos {m : Lt} (h : rightLt m = true) : 0 < (encLt m).length := by
  rw [encLt_right h]
  unfold encM
  have := (num7_len m.k).1
  rw [List.length_append]
  omega
/-- P15.6: a beginning is none. -/
theorem letter_cut {m : Lt} (h : rightLt m = true) (w : LtWf m) (ho : Octets (encLt m)) {q : Nat} (hq : q < (encLt m).length) : (decLt ((encLt m).take q)).2 ≠ 0 := fun e => by
  rcases letter_right (octets_take ho q) with h1 | ⟨x, _, h2, wx, rx⟩
  · exact h1.2 e
  · have hs : encLt m = encLt x ++ (encLt m).drop q := by rw [h2, List.take_append_drop]
    have hn := (letter_front rx h wx w hs).2
    have := congrArg List.length hn
    rw [List.length_drop, List.length_nil] at this
    omega
/-- P15.4, P15.6: two right letters have the same bytes just if they are the same; neither's bytes begin the other's. -/
theorem letter_apart {a b : Lt} (ha : rightLt a = true) (hb : rightLt b = true) (wa : LtWf a) (wb : LtWf b) :
    (encLt a).take (min (encLt a).length (encLt b).length) = (encLt b).take (min (encLt a).length (encLt b).length) ↔ a = b := by
  constructor
  · intro h
    rcases Nat.le_total (encLt a).length (encLt b).length with hl | hl
    · rw [Nat.min_eq_left hl, List.take_length] at h
      have hs := List.take_append_drop (encLt a).length (encLt b)
      rw [← h] at hs
      exact (letter_front ha hb wa wb hs.symm).1
    · rw [Nat.min_eq_right hl, List.take_length] at h
      have hs := List.take_append_drop (encLt b).length (encLt a)
      rw [h] at hs
      exact (letter_front hb ha wb wa hs.symm).1.symm
  · rintro rfl
    rfl
end Go.Proofs.Ytlnpfaoeockoiaa
/- What a reader gives, held against what bytes are taken as: numbers, texts, flags, commands, attributes, in plain words. No condition: nothing here speaks of a program. -/
namespace Go.Proofs.Ytlnpfaoeockoiaa
open Go.RowKit
/-- A read that began with the error e gave v, and stands at i' with the error e'. -/
def Got {α : Type} (d : Rdm α) (e : Int) (v : α) (i' : Nat) (e' : Int) : Prop :=
  (e ≠ 0 → e' = e) ∧ (e = 0 → match d with
    | .ok (a, j) => v = a ∧ i' = j ∧ e' = 0
    | .error x => e' = x ∧ x ≠ 0)
theorem Got.ok {α : Type} (a : α) (j : Nat) (e : Int) : Got (.ok (a, j)) e a j e := ⟨fun _ => rfl, fun h => ⟨rfl, rfl, h⟩⟩
theorem Got.bnd {α β : Type} {d : Rdm α} {f : α → Nat → Rdm β} {e e1 e2 : Int} {v : α} {u : β} {i1 i2 : Nat} (h : Got d e v i1 e1) (k : Got (f v i1) e1 u i2 e2) : Got (bnd d f) e u i2 e2 := by
  refine ⟨fun h0 => ?_, fun h0 => ?_⟩
  · have h1 := h.1 h0
    rw [k.1 (by rw [h1]; exact h0), h1]
  · have h1 := h.2 h0
    unfold Go.Proofs.Ytlnpfaoeockoiaa.bnd
    cases d with
    | error x =>
      obtain ⟨h1, h2⟩ := h1
      exact ⟨by rw [k.1 (by rw [h1]; exact h2), h1], h2⟩
    | ok a =>
      obtain ⟨a, j⟩ := a
      obtain ⟨rfl, rfl, h3⟩ := h1
      exact k.2 h3
theorem got_num (zs : List Int) (i : Nat) (e : Int) : Got (dNum zs i) e (rNumV zs i e) (rNumA zs i e) (rNumE zs i e) := by
  refine ⟨fun h => by unfold rNumE; rw [if_neg h], fun h => ?_⟩
  subst h
  have h1 : rNumE zs i 0 = rdE (zs.drop i) := by unfold rNumE; rw [if_pos rfl]
  unfold dNum rNumV rNumA
  rw [h1]
  by_cases h : rdE (zs.drop i) = 0
  · rw [if_pos h, if_pos h, if_pos h]; exact ⟨rfl, rfl, h⟩
  · rw [if_neg h]; exact ⟨rfl, h⟩
theorem got_cnt (zs : List Int) (m : Int) (i : Nat) (e : Int) : Got (dCnt zs m i) e (rCntV zs i e m) (rCntA zs i e m) (rCntE zs i e m) := by
  refine ⟨fun h => by unfold rCntE; rw [if_neg h], fun h => ?_⟩
  subst h
  have h1 : rCntE zs i 0 m = cntE (zs.drop i) m := by unfold rCntE; rw [if_pos rfl]
  unfold dCnt rCntV rCntA
  rw [h1]
  by_cases h : cntE (zs.drop i) m = 0
  · rw [if_pos h, if_pos h, if_pos h]; exact ⟨rfl, rfl, h⟩
  · rw [if_neg h]; exact ⟨rfl, h⟩
theorem got_txt (zs : List Int) (m : Int) (i : Nat) (e : Int) : Got (dTxt zs m i) e (strOf (rTxtV zs i e m)) (rTxtA zs i e m) (rTxtE zs i e m) := by
  refine ⟨fun h => by unfold rTxtE; rw [if_neg h], fun h => ?_⟩
  subst h
  have h1 : rTxtE zs i 0 m = txtE (zs.drop i) m := by unfold rTxtE; rw [if_pos rfl]
  unfold dTxt rTxtV rTxtA
  rw [h1]
  by_cases h : txtE (zs.drop i) m = 0
  · rw [if_pos h, if_pos h, if_pos h]; exact ⟨rfl, rfl, h⟩
  · rw [if_neg h]; exact ⟨rfl, h⟩
theorem got_flg (zs : List Int) (i : Nat) (e : Int) : Got (dFlg zs i) e (rFlgV zs i e) (rFlgA zs i e) (rFlgE zs i e) := by
  refine ⟨fun h => by unfold rFlgE; rw [if_neg h], fun h => ?_⟩
  subst h
  have h1 : rFlgE zs i 0 = flgE zs i := by unfold rFlgE flgE; rw [if_pos rfl]
  unfold dFlg rFlgV rFlgA
  rw [h1]
  by_cases h : flgE zs i = 0
  · rw [if_pos h, if_pos h]; exact ⟨by simp [h], rfl, h⟩
  · rw [if_neg h]; exact ⟨rfl, h⟩
/-- Where nothing is wrong it may be another one. -/
theorem Got.swap {α : Type} {d : Rdm α} {e e' : Int} {v u : α} {i' : Nat} (h : Got d e v i' e') (hu : e' = 0 → v = u) : Got d e u i' e' := by
  refine ⟨h.1, fun h0 => ?_⟩
  have h1 := h.2 h0
  cases d with
  | error x => exact h1
  | ok a =>
    obtain ⟨a, j⟩ := a
    obtain ⟨rfl, rfl, h3⟩ := h1
    exact ⟨(hu h3).symm, rfl, h3⟩
theorem Got.at_ {α : Type} {d : Rdm α} {e e' e2 : Int} {v u : α} {i' i2 : Nat} (h : Got d e v i' e') (h1 : v = u) (h2 : i' = i2) (h3 : e' = e2) : Got d e u i2 e2 := by subst h1 h2 h3; exact h
theorem Got.chk {α : Type} {d : Rdm α} {e e' : Int} {v : α} {i' : Nat} (h : Got d e v i' e') (b : α → Bool) : Got (dChk b d) e v i' (if b v then e' else rFailE e') := by
  refine ⟨fun h0 => ?_, fun h0 => ?_⟩
  · have h1 := h.1 h0
    subst h1
    unfold rFailE
    rw [if_neg h0]
    split <;> rfl
  · have h1 := h.2 h0
    unfold dChk Go.Proofs.Ytlnpfaoeockoiaa.bnd
    cases d with
    | error x =>
      obtain ⟨rfl, h2⟩ := h1
      unfold rFailE
      rw [if_neg h2]
      exact ⟨by split <;> rfl, h2⟩
    | ok a =>
      obtain ⟨a, j⟩ := a
      obtain ⟨rfl, rfl, rfl⟩ := h1
      dsimp only
      by_cases hb : b v = true
      · rw [if_pos hb, if_pos hb]; exact ⟨rfl, rfl, rfl⟩
      · rw [if_neg hb, if_neg hb]; exact ⟨rfl, by decide⟩
theorem Got.error {α : Type} {d : Rdm α} {v : α} {i' : Nat} {e' x : Int} (h : Got d 0 v i' e') (hd : d = .error x) : e' = x ∧ x ≠ 0 := by subst hd; exact h.2 rfl
theorem Got.fine {α : Type} {d : Rdm α} {v a : α} {i' j : Nat} {e' : Int} (h : Got d 0 v i' e') (hd : d = .ok (a, j)) : v = a ∧ i' = j ∧ e' = 0 := by subst hd; exact h.2 rfl
/-- A command. -/
theorem got_cm0 (zs : List Int) (i : Nat) (e : Int) : Got (dCm0 zs i) e (readC zs i e).1 (readC zs i e).2.1 (readC zs i e).2.2 := by
  unfold dCm0
  by_cases h0 : rNumV zs i e = 0
  · rw [readC_none h0 rfl rfl]
    refine (got_num zs i e).bnd ?_
    rw [if_pos h0]
    exact Got.ok _ _ _
  · rw [readC_some h0 rfl rfl rfl rfl rfl rfl rfl rfl rfl rfl rfl rfl]
    refine (got_num zs i e).bnd ?_
    rw [if_neg h0]
    refine (got_num zs _ _).bnd ((got_num zs _ _).bnd ((got_txt zs 16 _ _).bnd ?_))
    by_cases g2 : rNumV zs i e = 2
    · rw [if_pos g2, if_pos g2]
      exact (got_txt zs 64 _ _).bnd (Got.ok _ _ _)
    · rw [if_neg g2, if_neg g2]
      by_cases g4 : rNumV zs i e = 4
      · rw [if_pos g4, if_pos g4]
        exact (got_txt zs 64 _ _).bnd ((got_txt zs 64 _ _).bnd (Got.ok _ _ _))
      · rw [if_neg g4, if_neg g4]
        by_cases g5 : rNumV zs i e = 5
        · rw [if_pos g5, if_pos g5]
          exact (got_txt zs 16 _ _).bnd (Got.ok _ _ _)
        · rw [if_neg g5, if_neg g5]
          exact Got.ok _ _ _
theorem got_cm (zs : List Int) (i : Nat) (e : Int) : Got (dCm zs i) e (getV zs i e) (getA zs i e) (getE zs i e) := by
  refine ((got_cm0 zs i e).chk rightC).swap fun h => ?_
  unfold getV
  rw [if_pos (show getE zs i e = 0 from h)]
/-- Numbers one behind the other. -/
def valsN (zs : List Int) : Nat → Int → Nat → List Int
  | _, _, 0 => []
  | i, e, n + 1 => rNumV zs i e :: valsN zs (rNumA zs i e) (rNumE zs i e) n
theorem got_nums (zs : List Int) : ∀ (n i : Nat) (e : Int), Got (dNums zs n i) e (valsN zs i e n) (stN zs i e n).1 (stN zs i e n).2
  | 0, _, _ => Got.ok _ _ _
  | n + 1, i, e => (got_num zs i e).bnd ((got_nums zs n _ _).bnd (Got.ok _ _ _))
theorem vals8 (zs : List Int) (i : Nat) (e : Int) : valsN zs i e 8 = tab8 (valN zs i e) := rfl
/-- Attributes. -/
theorem got_at (zs : List Int) (i : Nat) (e : Int) : Got (dAt zs i) e (d_getV zs i e) (stN zs i e 8).1 (d_getE zs i e) := by
  refine ((got_nums zs 8 i e).chk rightAl).swap fun h => ?_
  unfold d_getV
  rw [if_pos (show d_getE zs i e = 0 from h)]
  rfl
/-- A ballot, an instance. -/
theorem got_bal (zs : List Int) (i : Nat) (e : Int) : Got (dBal zs i) e (rNumV zs i e, rNumV zs (rNumA zs i e) (rNumE zs i e)) (rNumA zs (rNumA zs i e) (rNumE zs i e)) (rNumE zs (rNumA zs i e) (rNumE zs i e)) :=
  (got_num zs i e).bnd ((got_num zs _ _).bnd (Got.ok _ _ _))
/-- What is taken, behind End. -/
theorem got_end {zs : List Int} {m : Lt} {i' : Nat} {e' : Int} (h : Got (dLt0 zs 0) 0 m i' e') :
    decLt zs = if rEndE zs i' e' = 0 then (if rightLt m then (m, 0) else (zeroLt, 4)) else (zeroLt, rEndE zs i' e') := by
  unfold decLt
  cases hd : dLt0 zs 0 with
  | error x =>
    obtain ⟨rfl, h2⟩ := h.error hd
    have : rEndE zs i' e' = e' := by unfold rEndE; rw [if_neg h2]
    rw [this, if_neg h2]
  | ok v =>
    obtain ⟨a, j⟩ := v
    obtain ⟨rfl, rfl, rfl⟩ := h.fine hd
    unfold rEndE
    rw [if_pos rfl]
    dsimp only
    by_cases hj : i' < zs.length
    · rw [if_pos hj, if_pos hj, if_neg (by decide)]
    · rw [if_neg hj, if_neg hj, if_pos rfl]
end Go.Proofs.Ytlnpfaoeockoiaa
/- The document's getBallot, getInst. Conditions: the reader lies in memory as it must. -/
namespace Go.Proofs.Ytlnpfaoeockoiaa
set_option maxRecDepth 100000
open Go.RowKit
theorem results_bal {fn : Func} {p : Tmp} {tmps : Array Value} {w : World} {g : Nat} {t : TypeId} {v0 v1 : Value} (hf : fn.results = #[.cell p 27]) (hp : tmps.getD p undef = .pointer (some ⟨g, 0, none⟩)) (hr : Row w g t #[v0, v1]) :
    (results fn tmps).run Try.prog w = .ok (.agg #[v0, v1]) w :=
  results_cell_row hf tmps w g t _ _ _ hp hr Try.underlying27 rfl (by kernel_rfl)
set_option maxHeartbeats 4000000 in
theorem rgetballot_any {w : World} {B g i : Nat} {zs : List Int} {e : Int} (h : Rdr 59 w B g zs i e) :
    Calls Try.prog 63 #[.pointer (some ⟨g, 0, none⟩)] w fun x w' =>
      x = .returned (.agg #[.int .i64 (rNumV zs i e), .int .i64 (rNumV zs (rNumA zs i e) (rNumE zs i e))]) ∧ Rdr 59 w' B g zs (rNumA zs (rNumA zs i e) (rNumE zs i e)) (rNumE zs (rNumA zs i e) (rNumE zs i e)) ∧ w.grownBy w' (some g) := by
  have hlt := h.lt
  have HN := hide (rnum_to (h.alloc (.cells #[.int .i64 0, .int .i64 0] 27)))
  have HA := hide (Row.new w 27 #[.int .i64 0, .int .i64 0])
  have HG := hide (World.grownBy_alloc w (.cells #[.int .i64 0, .int .i64 0] 27) (some g))
  clear h
  go_enter Try.func63, Try.ntmps63
  go_upto_region 1 with (fail)
  generalize w.alloc (.cells #[.int .i64 0, .int .i64 0] 27) = w0 at HN HA HG ⊢
  go_upto_region 2 with (go_at_call 61; (with_reducible refine HN.out.mono ?_); rintro x w1 ⟨rfl, hr, hg⟩)
  have HA1 := hide (HA.out.grown hg (by simp; omega))
  have HG1 := hide (grown_trans HG.out hg)
  have HS := hide HG1.out.size
  have hsz : w.heap.size < w1.heap.size := HA1.out.lt
  have HN2 := hide (rnum_to (hr.alloc (.cells #[.int .i64 (rNumV zs i e), .int .i64 0] 27)))
  have HL := hide (Row.new w1 27 #[.int .i64 (rNumV zs i e), .int .i64 0])
  have HA2 := hide (HA1.out.alloc (.cells #[.int .i64 (rNumV zs i e), .int .i64 0] 27))
  have HG2 := hide (grown_trans HG1.out (World.grownBy_alloc w1 (.cells #[.int .i64 (rNumV zs i e), .int .i64 0] 27) (some g)))
  clear hr hg HN HA HG HA1 HG1
  generalize w1.alloc (.cells #[.int .i64 (rNumV zs i e), .int .i64 0] 27) = w2 at HN2 HL HA2 HG2 ⊢
  generalize w1.heap.size = l at HL hsz HS ⊢
  have nl : some l ≠ some g := fun e => absurd (Option.some.inj e) (by omega)
  have na : some w.heap.size ≠ some g := fun e => absurd (Option.some.inj e) (by omega)
  have hne : ¬ w.heap.size = l := by omega
  have hne' : ¬ l = w.heap.size := by omega
  go_wp2_with (go_at_call 61; (with_reducible refine HN2.out.mono ?_); rintro x w3 ⟨rfl, hr, hg⟩; have HL3 := HL.out.grown hg nl; have HA3 := HA2.out.grown hg na; have hr := hide hr; have HG3 := hide (grown_trans HG2.out hg); clear hg; have a0 := HA3.cell 0; have a1 := HA3.cell 1; have b0 := HL3.cell 0; have b1 := HL3.cell 1; have fa0 := HA3.free 0; have fa1 := HA3.free 1; have fb0 := HL3.free 0; have fb1 := HL3.free 1; have HL3 := hide HL3; have HA3 := hide HA3)
  have hlow := hr.out.low
  have q1 := hr.out.far (grown_set1 w3 l 1 (.int .i64 (rNumV zs (rNumA zs i e) (rNumE zs i e)))) (by omega) (by omega)
  have q2 := q1.far (grown_set1 _ w.heap.size 0 (.int .i64 (rNumV zs i e))) (by omega) (by omega)
  have q3 := q2.far (grown_set1 _ w.heap.size 1 (.int .i64 (rNumV zs (rNumA zs i e) (rNumE zs i e)))) (by omega) (by omega)
  have r1 : Row (w3.setCell ⟨l, 1, none⟩ (.int .i64 (rNumV zs (rNumA zs i e) (rNumE zs i e)))) w.heap.size 27 #[.int .i64 0, .int .i64 0] := HA3.out.same (Below.heap_setCell _ _ _ _ (by show w.heap.size ≠ l; omega))
  have r2 := (r1.put 0 (.int .i64 (rNumV zs i e))).put 1 (.int .i64 (rNumV zs (rNumA zs i e) (rNumE zs i e)))
  exact bodyPost_ret (results_bal Try.results63 rfl r2) rfl ⟨rfl, q3, grown_own (grown_own (grown_own HG3.out (by omega) 1 _) (Nat.le_refl _) 0 _) (Nat.le_refl _) 1 _⟩
theorem results_in {fn : Func} {p : Tmp} {tmps : Array Value} {w : World} {g : Nat} {t : TypeId} {v0 v1 : Value} (hf : fn.results = #[.cell p 25]) (hp : tmps.getD p undef = .pointer (some ⟨g, 0, none⟩)) (hr : Row w g t #[v0, v1]) :
    (results fn tmps).run Try.prog w = .ok (.agg #[v0, v1]) w :=
  results_cell_row hf tmps w g t _ _ _ hp hr Try.underlying25 rfl (by kernel_rfl)
set_option maxHeartbeats 4000000 in
theorem rgetinst_any {w : World} {B g i : Nat} {zs : List Int} {e : Int} (h : Rdr 59 w B g zs i e) :
    Calls Try.prog 62 #[.pointer (some ⟨g, 0, none⟩)] w fun x w' =>
      x = .returned (.agg #[.int .i64 (rNumV zs i e), .int .i64 (rNumV zs (rNumA zs i e) (rNumE zs i e))]) ∧ Rdr 59 w' B g zs (rNumA zs (rNumA zs i e) (rNumE zs i e)) (rNumE zs (rNumA zs i e) (rNumE zs i e)) ∧ w.grownBy w' (some g) := by
  have hlt := h.lt
  have HN := hide (rnum_to (h.alloc (.cells #[.int .i64 0, .int .i64 0] 25)))
  have HA := hide (Row.new w 25 #[.int .i64 0, .int .i64 0])
  have HG := hide (World.grownBy_alloc w (.cells #[.int .i64 0, .int .i64 0] 25) (some g))
  clear h
  go_enter Try.func62, Try.ntmps62
  go_upto_region 1 with (fail)
  generalize w.alloc (.cells #[.int .i64 0, .int .i64 0] 25) = w0 at HN HA HG ⊢
  go_upto_region 2 with (go_at_call 61; (with_reducible refine HN.out.mono ?_); rintro x w1 ⟨rfl, hr, hg⟩)
  have HA1 := hide (HA.out.grown hg (by simp; omega))
  have HG1 := hide (grown_trans HG.out hg)
  have HS := hide HG1.out.size
  have hsz : w.heap.size < w1.heap.size := HA1.out.lt
  have HN2 := hide (rnum_to (hr.alloc (.cells #[.int .i64 (rNumV zs i e), .int .i64 0] 25)))
  have HL := hide (Row.new w1 25 #[.int .i64 (rNumV zs i e), .int .i64 0])
  have HA2 := hide (HA1.out.alloc (.cells #[.int .i64 (rNumV zs i e), .int .i64 0] 25))
  have HG2 := hide (grown_trans HG1.out (World.grownBy_alloc w1 (.cells #[.int .i64 (rNumV zs i e), .int .i64 0] 25) (some g)))
  clear hr hg HN HA HG HA1 HG1
  generalize w1.alloc (.cells #[.int .i64 (rNumV zs i e), .int .i64 0] 25) = w2 at HN2 HL HA2 HG2 ⊢
  generalize w1.heap.size = l at HL hsz HS ⊢
  have nl : some l ≠ some g := fun e => absurd (Option.some.inj e) (by omega)
  have na : some w.heap.size ≠ some g := fun e => absurd (Option.some.inj e) (by omega)
  have hne : ¬ w.heap.size = l := by omega
  have hne' : ¬ l = w.heap.size := by omega
  go_wp2_with (go_at_call 61; (with_reducible refine HN2.out.mono ?_); rintro x w3 ⟨rfl, hr, hg⟩; have HL3 := HL.out.grown hg nl; have HA3 := HA2.out.grown hg na; have hr := hide hr; have HG3 := hide (grown_trans HG2.out hg); clear hg; have a0 := HA3.cell 0; have a1 := HA3.cell 1; have b0 := HL3.cell 0; have b1 := HL3.cell 1; have fa0 := HA3.free 0; have fa1 := HA3.free 1; have fb0 := HL3.free 0; have fb1 := HL3.free 1; have HL3 := hide HL3; have HA3 := hide HA3)
  have hlow := hr.out.low
  have q1 := hr.out.far (grown_set1 w3 l 1 (.int .i64 (rNumV zs (rNumA zs i e) (rNumE zs i e)))) (by omega) (by omega)
  have q2 := q1.far (grown_set1 _ w.heap.size 0 (.int .i64 (rNumV zs i e))) (by omega) (by omega)
  have q3 := q2.far (grown_set1 _ w.heap.size 1 (.int .i64 (rNumV zs (rNumA zs i e) (rNumE zs i e)))) (by omega) (by omega)
  have r1 : Row (w3.setCell ⟨l, 1, none⟩ (.int .i64 (rNumV zs (rNumA zs i e) (rNumE zs i e)))) w.heap.size 25 #[.int .i64 0, .int .i64 0] := HA3.out.same (Below.heap_setCell _ _ _ _ (by show w.heap.size ≠ l; omega))
  have r2 := (r1.put 0 (.int .i64 (rNumV zs i e))).put 1 (.int .i64 (rNumV zs (rNumA zs i e) (rNumE zs i e)))
  exact bodyPost_ret (results_in Try.results62 rfl r2) rfl ⟨rfl, q3, grown_own (grown_own (grown_own HG3.out (by omega) 1 _) (Nat.le_refl _) 0 _) (Nat.le_refl _) 1 _⟩
end Go.Proofs.Ytlnpfaoeockoiaa
/- append of a slice of bytes that lies anywhere, nil or not, onto a row of the call's own, as one step of a region that draws its order. No condition: nothing here speaks of one function. -/
namespace Go.Proofs.Ytlnpfaoeockoiaa
set_option maxRecDepth 100000
open Go.RowKit
theorem run_append_lies {P : Program} {w : World} (base : Nat) (t ty e : TypeId) (i : TypeInfo) (z : Value) (ht : P.underlying t = some (.slice e)) (hi : P.info? e = some i) (hz : i.zero = some z) (hsize : i.size = 1) (hby : i.bytes = 1) (hzs : z.cells.size = 1)
    (v : Value) (n : Nat) (xs : List Int) (hown : w.ownsRow base e 1 v n (cellsOf xs))
    (A : Option Addr) (m c : Nat) (zs : List Int) (hm : zs.length = m) (hc : A = none → c = 0) (hl : Lies w A zs) (hb : n + m ≤ 200000000000000) (hbase : base ≤ w.heap.size) :
    ∃ v' w', (Builtin.append_ #[t, t] ty #[v, .slice A m c]).run P w = .ok v' w' ∧ w'.ownsRow base e 1 v' (n + m) (cellsOf (xs ++ zs)) ∧ Below base w w' := by
  subst hm
  rcases A with _ | ad
  · have h0 := hl.nil_ rfl
    have hz0 : zs = [] := List.eq_nil_of_length_eq_zero h0
    subst hz0
    obtain rfl := hc rfl
    exact ⟨v, w, run_append_owned_none (P := P) (w := w) base t ty e i 1 ht hi v n (cellsOf xs) hown, by simpa using hown, Below.refl _ _⟩
  · obtain ⟨v', w', hr, h1, h2, _⟩ := run_append_own_wide (P := P) w base t ty e i z 1 1 ht hi hz hsize hby hzs (by omega) v n (cellsOf xs) hown ad zs.length c (cellsOf zs) (by rw [length_cellsOf]; omega) (by
      intro j u hj
      obtain ⟨hk, _⟩ := cellsOf_some hj
      obtain ⟨b, off, e', _⟩ := hl (by omega)
      injection e' with e'
      subst e'
      exact Lies.cells hl j u hj) cellsOf_one (by unfold maxLen; omega) (by omega) hbase
    exact ⟨v', w', hr, by rw [cellsOf_append]; exact h1, (Below.refl _ _).grown h2 hbase (fun k hk => (hown.lt k hk).1)⟩
theorem step_append_bytes {P : Program} {w : World} {ops : Array Oper} {o : Oper} {a : Act} {K : Act → World → Prop} {Q : Exit → Act → World → Prop} {E : Prop} (hgd : o.guard = none) (s x : Operand) (t : TypeId)
    (ho : o.op = .call { callee := .builtin .append, args := #[s, x], argTypes := #[t, t] })
    (base : Nat) (e : TypeId) (i : TypeInfo) (z : Value) (ht : P.underlying t = some (.slice e)) (hi : P.info? e = some i) (hz : i.zero = some z) (hsize : i.size = 1) (hby : i.bytes = 1) (hzs : z.cells.size = 1)
    (v : Value) (n : Nat) (xs : List Int) (hs : a.eval s = v) (hown : w.ownsRow base e 1 v n (cellsOf xs))
    (A : Option Addr) (m c : Nat) (zs : List Int) (hx : a.eval x = .slice A m c) (hm : zs.length = m) (hc : A = none → c = 0) (hl : Lies w A zs) (hb : n + m ≤ 200000000000000) (hbase : base ≤ w.heap.size)
    (h : ∀ v' w', w'.ownsRow base e 1 v' (n + m) (cellsOf (xs ++ zs)) → Below base w w' → K (a.put o.dst v') w') :
    if Region.wanted o (yielded ops a.tmps) = true then Oper.wp P o a w K Q else E := by
  have hw : Region.wanted o (yielded ops a.tmps) = true := by simp [Region.wanted, hgd]
  rw [if_pos hw]
  obtain ⟨v', w', hr, h2, h3⟩ := run_append_lies (P := P) (w := w) base t o.type e i z ht hi hz hsize hby hzs v n xs hown A m c zs hm hc hl hb hbase
  unfold Oper.wp execOp
  simp only [ho, resolve, invoke, builtin, Sem.run_bind, Sem.run_pure, Result.andThen_ok, List.map_toArray, List.map_cons, List.map_nil, hs, hx, hr]
  exact h v' w' h2 h3
end Go.Proofs.Ytlnpfaoeockoiaa
/- Bytes of the call's own, one behind the other. Conditions: what each call's own says. -/
namespace Go.Proofs.Ytlnpfaoeockoiaa
set_option maxRecDepth 100000
open Go.RowKit
theorem own_form {w : World} {m base : Nat} {e : TypeId} {v : Value} {n : Nat} {xs : List Value} (h : w.ownsRow base e m v n xs) : ∃ A c, v = .slice A n c ∧ (A = none → c = 0) ∧ n ≤ c ∧ c ≤ maxLen ∧ (∀ a, A = some a → a.spot = none ∧ a.off = 0) := by
  rcases h.2 with ⟨rfl, rfl⟩ | ⟨g, cap, cur, rfl, _, _, hc, hm, _⟩
  · exact ⟨none, 0, rfl, fun _ => rfl, Nat.le_refl _, by unfold maxLen; omega, fun a h => by cases h⟩
  · exact ⟨_, cap, rfl, (fun h => by cases h), hc, hm, fun a h => by cases h; exact ⟨rfl, rfl⟩⟩
/-- A row of the call's own that is these bytes. -/
def By (b : Nat) (w : World) (v : Value) (zs : List Int) : Prop := w.ownsRow b 5 1 v zs.length (cellsOf zs)
def MadeB (w : World) (zs : List Int) (e : Ending) (w' : World) : Prop := ∃ u, e = .returned u ∧ By w.heap.size w' u zs ∧ Below w.heap.size w w'
section
variable {b b' : Nat} {w w' : World} {v : Value} {zs : List Int}
theorem By.nil_ (b : Nat) (w : World) : By b w (.slice none 0 0) [] := ⟨rfl, .inl ⟨rfl, rfl⟩⟩
theorem By.below (h : By b w v zs) (hb : Below w.heap.size w w') : By b w' v zs := by
  unfold By at h ⊢
  exact h.kept (grown_below hb) (by cases v.ownBlock <;> simp)
theorem By.mono (h : By b' w v zs) (hb : b ≤ b') : By b w v zs := by
  refine ⟨h.1, h.2.imp_right ?_⟩
  rintro ⟨g, cap, cur, h1, h2, h3⟩
  exact ⟨g, cap, cur, h1, Nat.le_trans hb h2, h3⟩
theorem By.form (h : By b w v zs) : ∃ A c, v = .slice A zs.length c ∧ (A = none → c = 0) ∧ zs.length ≤ c ∧ c ≤ 9223372036854775807 ∧ Lies w A zs := by
  obtain ⟨A, c, e, hA, hn, hc, _⟩ := own_form h
  subst e
  have hmx : maxLen ≤ 9223372036854775807 := by unfold maxLen; omega
  exact ⟨A, c, rfl, hA, hn, Nat.le_trans hc hmx, Lies.of_own h⟩
theorem By.blk (h : By b w v zs) : ∀ k, v.ownBlock = some k → b ≤ k ∧ k < w.heap.size := fun k e => by
  rcases h.2 with ⟨rfl, _⟩ | ⟨g1, c1, cur1, rfl, hb, h1, _⟩
  · cases e
  · have e : some g1 = some k := e
    cases e
    exact ⟨hb, (Array.getElem?_eq_some_iff.1 h1).1⟩
theorem by_of {w : World} {n : Nat} {zs : List Int} (hn : n = zs.length) {e : Ending} {w' : World} (h : ∃ v, e = .returned v ∧ w'.ownsRow w.heap.size 5 1 v n (cellsOf zs) ∧ Below w.heap.size w w') : MadeB w zs e w' := by
  subst hn
  exact h
theorem bnum (h : By b w v zs) (m : Int) (ln : zs.length ≤ 140737488354000) (m0 : -9223372036854775808 ≤ m) (m1 : m ≤ 9223372036854775807) : Calls Try.prog 73 #[v, .int .i64 m] w (MadeB w (zs ++ num7 m)) := by
  obtain ⟨A, c, rfl, hA, _, _, hl⟩ := h.form
  exact (num_any A _ c zs m w rfl hl hA (by omega) m0 m1).mono fun _ _ z => by_of (by rw [List.length_append]) z
theorem btext (h : By b w v zs) (s : ByteArray) (ln : zs.length ≤ 140737488354000) (hs : s.size ≤ 1000) : Calls Try.prog 35 #[v, .string s] w (MadeB w (zs ++ text7 s)) := by
  obtain ⟨A, c, rfl, hA, _, _, hl⟩ := h.form
  exact (text_any A _ c zs s w rfl hl hA (by omega)).mono fun _ _ z => by_of (by rw [List.length_append]) z
theorem btext_z (h : By b w v zs) (s : ByteArray) (ln : zs.length ≤ 100000) (hs : s.size ≤ 100000) : Calls Try.prog 35 #[v, .string s] w (MadeB w (zs ++ text7 s)) := by
  obtain ⟨A, c, rfl, hA, _, _, hl⟩ := h.form
  exact (text_any A _ c zs s w rfl hl hA (by omega)).mono fun _ _ z => by_of (by rw [List.length_append]) z
theorem rbtext_z (h : By b w v zs) (s : ByteArray) (ln : zs.length ≤ 100000) (hs : s.size ≤ 100000) : Calls Try.prog 58 #[v, .string s] w (MadeB w (zs ++ text7 s)) := by
  obtain ⟨A, c, rfl, hA, _, _, hl⟩ := h.form
  exact (rtext_any A _ c zs s w rfl hl hA (by omega)).mono fun _ _ z => by_of (by rw [List.length_append]) z
theorem bflag (h : By b w v zs) (f : Bool) (ln : zs.length ≤ 140737488354000) : Calls Try.prog 86 #[v, .bool f] w (MadeB w (zs ++ flg7 f)) := by
  obtain ⟨A, c, rfl, hA, _, _, hl⟩ := h.form
  exact (flag_any A _ c zs f w rfl hl hA (by omega)).mono fun _ _ z => by_of (by unfold flg7; rw [List.length_append]; rfl) z
theorem rbnum (h : By b w v zs) (m : Int) (ln : zs.length ≤ 140737488354000) (m0 : -9223372036854775808 ≤ m) (m1 : m ≤ 9223372036854775807) : Calls Try.prog 43 #[v, .int .i64 m] w (MadeB w (zs ++ num7 m)) := by
  obtain ⟨A, c, rfl, hA, _, _, hl⟩ := h.form
  exact (rnum_any A _ c zs m w rfl hl hA (by omega) m0 m1).mono fun _ _ z => by_of (by rw [List.length_append]) z
theorem rbtext (h : By b w v zs) (s : ByteArray) (ln : zs.length ≤ 140737488354000) (hs : s.size ≤ 1000) : Calls Try.prog 58 #[v, .string s] w (MadeB w (zs ++ text7 s)) := by
  obtain ⟨A, c, rfl, hA, _, _, hl⟩ := h.form
  exact (rtext_any A _ c zs s w rfl hl hA (by omega)).mono fun _ _ z => by_of (by rw [List.length_append]) z
theorem rbflag (h : By b w v zs) (f : Bool) (ln : zs.length ≤ 140737488354000) : Calls Try.prog 44 #[v, .bool f] w (MadeB w (zs ++ flg7 f)) := by
  obtain ⟨A, c, rfl, hA, _, _, hl⟩ := h.form
  exact (rflag_any A _ c zs f w rfl hl hA (by omega)).mono fun _ _ z => by_of (by unfold flg7; rw [List.length_append]; rfl) z
end
end Go.Proofs.Ytlnpfaoeockoiaa
/- Put of package deps onto nothing: its contract. Conditions: the bounds of ints. -/
namespace Go.Proofs.Ytlnpfaoeockoiaa
set_option maxRecDepth 100000
open Go.RowKit
/-- The first k + 1 numbers' bytes. -/
def bytesTo (a : List Int) : Nat → List Int
  | 0 => num7 (ix a 0)
  | k + 1 => bytesTo a k ++ num7 (ix a (k + 1))
theorem bytesTo_len (a : List Int) : ∀ k, 1 + k ≤ (bytesTo a k).length ∧ (bytesTo a k).length ≤ 10 + 10 * k
  | 0 => by have := num7_len (ix a 0); unfold bytesTo; omega
  | k + 1 => by
    have := bytesTo_len a k
    have h7 := num7_len (ix a (k + 1))
    unfold bytesTo
    rw [List.length_append]
    omega
theorem bytesTo_all {a0 a1 a2 a3 a4 a5 a6 a7 : Int} : bytesTo [a0, a1, a2, a3, a4, a5, a6, a7] 7 = encN [a0, a1, a2, a3, a4, a5, a6, a7] := by
  show (((((((num7 a0 ++ num7 a1) ++ num7 a2) ++ num7 a3) ++ num7 a4) ++ num7 a5) ++ num7 a6) ++ num7 a7) = num7 a0 ++ (num7 a1 ++ (num7 a2 ++ (num7 a3 ++ (num7 a4 ++ (num7 a5 ++ (num7 a6 ++ (num7 a7 ++ [])))))))
  simp
theorem own_lower {w : World} {base base' : Nat} {e : TypeId} {size : Nat} {v : Value} {n : Nat} {xs : List Value} (h : w.ownsRow base e size v n xs) (hb : base' ≤ base) : w.ownsRow base' e size v n xs :=
  ⟨h.1, h.2.imp id fun ⟨g, cap, cur, e1, hg, r⟩ => ⟨g, cap, cur, e1, Nat.le_trans hb hg, r⟩⟩
set_option maxRecDepth 100000 in
set_option maxHeartbeats 4000000 in
theorem put_any (a0 a1 a2 a3 a4 a5 a6 a7 : Int) (w : World) (h : Ok8 [a0, a1, a2, a3, a4, a5, a6, a7]) : Calls Try.prog 34 #[.slice none 0 0, .agg #[.int .i64 a0, .int .i64 a1, .int .i64 a2, .int .i64 a3, .int .i64 a4, .int .i64 a5, .int .i64 a6, .int .i64 a7]] w (MadeO w (encN [a0, a1, a2, a3, a4, a5, a6, a7]).length (encN [a0, a1, a2, a3, a4, a5, a6, a7])) := by
  have hk : ∀ k, k < 8 → I64 (ix [a0, a1, a2, a3, a4, a5, a6, a7] k) := fun k hk => h.ok _ (by rw [ix_lt _ (by simpa using hk)]; exact List.getElem_mem _)
  have HK := hide hk
  have o0 : I64 a0 := hk 0 (by omega)
  have HALL := hide (bytesTo_all (a0 := a0) (a1 := a1) (a2 := a2) (a3 := a3) (a4 := a4) (a5 := a5) (a6 := a6) (a7 := a7))
  have hlen := encN_len [a0, a1, a2, a3, a4, a5, a6, a7]
  have hm : (encN [a0, a1, a2, a3, a4, a5, a6, a7]).length ≤ 80 := hlen.2
  generalize encN [a0, a1, a2, a3, a4, a5, a6, a7] = zs at HALL hm ⊢
  have hn0 := hide (fun w => num_nil (m := a0) (ys := bytesTo [a0, a1, a2, a3, a4, a5, a6, a7] 0) (n := (bytesTo [a0, a1, a2, a3, a4, a5, a6, a7] 0).length) w o0.1 o0.2 rfl rfl)
  have hb0 := hide ((Below.refl w.heap.size w).alloc (Nat.le_refl _) (.cells #[.int .i64 a0, .int .i64 a1, .int .i64 a2, .int .i64 a3, .int .i64 a4, .int .i64 a5, .int .i64 a6, .int .i64 a7] 33))
  clear h hk hlen o0
  go_enter Try.func34, Try.ntmps34
  go_upto_region 2 with (go_at_call 73; refine (hn0.out _).mono ?_; rintro e w1 ⟨A, c, rfl, hc, hL, hA, hb⟩)
  have R := hide ((Row.new w 33 #[.int .i64 a0, .int .i64 a1, .int .i64 a2, .int .i64 a3, .int .i64 a4, .int .i64 a5, .int .i64 a6, .int .i64 a7]).below hb (by simp))
  have HB := hide (hb0.out.trans (hb.mono hb0.out.size))
  have HP := hide (And.intro hL (And.intro hA hc))
  obtain ⟨f0, f1, f2, f3, f4, f5, f6, f7⟩ := R.out.eight
  replace f1 : w1.cell? ⟨w.heap.size, 1, none⟩ = some (.int .i64 a1) := f1
  replace f2 : w1.cell? ⟨w.heap.size, 2, none⟩ = some (.int .i64 a2) := f2
  replace f3 : w1.cell? ⟨w.heap.size, 3, none⟩ = some (.int .i64 a3) := f3
  replace f4 : w1.cell? ⟨w.heap.size, 4, none⟩ = some (.int .i64 a4) := f4
  replace f5 : w1.cell? ⟨w.heap.size, 5, none⟩ = some (.int .i64 a5) := f5
  replace f6 : w1.cell? ⟨w.heap.size, 6, none⟩ = some (.int .i64 a6) := f6
  replace f7 : w1.cell? ⟨w.heap.size, 7, none⟩ = some (.int .i64 a7) := f7
  clear f0 hb hL hA hc hb0 hn0 R
  go_wp2
  clear f1 f2 f3 f4 f5 f6 f7
  go_loopw [5, 13] (fun v i wr => ∃ k : Nat, k ≤ 7 ∧ i = .int .i64 k ∧ (∃ A c, v = .slice A (bytesTo [a0, a1, a2, a3, a4, a5, a6, a7] k).length c ∧ Hid (Lies wr A (bytesTo [a0, a1, a2, a3, a4, a5, a6, a7] k) ∧ (A = none → c = 0) ∧ (bytesTo [a0, a1, a2, a3, a4, a5, a6, a7] k).length ≤ c)) ∧ Hid (Below w.heap.size w wr)) (fun _ i _ => 7 - (intOf i).toNat)
  case atStart => exact ⟨0, by omega, rfl, ⟨A, c, rfl, HP⟩, HB⟩
  case round =>
    clear HP HB
    obtain ⟨k, hk, rfl, ⟨A, c, rfl, HP⟩, HB⟩ := hrel
    by_cases hlt : k < 7
    · have hi := index_deps a1 a2 a3 a4 a5 a6 a7 k hlt
      have he : ix [a1, a2, a3, a4, a5, a6, a7] k = ix [a0, a1, a2, a3, a4, a5, a6, a7] (k + 1) := rfl
      rw [he] at hi
      have oi := HK.out (k + 1) (by omega)
      have hbl := bytesTo_len [a0, a1, a2, a3, a4, a5, a6, a7] k
      have hcon := hide (fun w' (hb : w' = wr) => num_use (n := (bytesTo [a0, a1, a2, a3, a4, a5, a6, a7] k).length) (c := c) (w := w') (A := A) (ix [a0, a1, a2, a3, a4, a5, a6, a7] (k + 1)) rfl (hb ▸ HP.out.1) HP.out.2.1 (by omega) oi.1 oi.2)
      have HS : Hid (bytesTo [a0, a1, a2, a3, a4, a5, a6, a7] (k + 1) = bytesTo [a0, a1, a2, a3, a4, a5, a6, a7] k ++ num7 (ix [a0, a1, a2, a3, a4, a5, a6, a7] (k + 1))) := rfl
      clear he oi
      generalize ix [a0, a1, a2, a3, a4, a5, a6, a7] (k + 1) = q at hi hcon HS
      have k7 : (k : Int) < 7 := by omega
      go_wp2_with (go_at_call 73; refine (hcon.out _ rfl).mono ?_; rintro e w2 ⟨A', c', rfl, hc, hL, hA, hb⟩)
      have HB2 := hide (HB.out.trans (hb.mono HB.out.size))
      have HP2 := hide (And.intro hL (And.intro hA hc))
      clear hb hL hA hc
      go_roundw
      case rel => exact ⟨k + 1, by omega, by go_num, ⟨A', c', by rw [HS.out, List.length_append], by rw [HS.out, List.length_append]; exact HP2⟩, HB2⟩
      case measure => simp [intOf]; omega
    · obtain rfl : k = 7 := by omega
      rw [HALL.out] at HP ⊢
      have k7 : ¬ (((7 : Nat) : Int) < 7) := by omega
      have hcon := hide (concat_own none A 0 0 zs.length c wr.heap.size [] zs (wr.alloc (.cells #[.slice none 0 0, .slice A zs.length c] 22)) rfl rfl Lies.none_ (HP.out.1.alloc _) (fun _ => rfl) HP.out.2.1 (by omega) (by simp) ((Row.new _ _ _).cell 0) ((Row.new _ _ _).cell 1))
      rw [Nat.zero_add, List.nil_append] at hcon
      go_wp2_with (go_at_call 59; refine hcon.out.mono ?_; rintro e w2 ⟨v, rfl, ho, hb⟩)
      go_ret
      exact ⟨v, rfl, own_lower ho (by have := HB.out.size; simp; omega), HB.out.trans ((kept_trans (kept_alloc (kept_refl _) _) hb).mono HB.out.size)⟩
end Go.Proofs.Ytlnpfaoeockoiaa
/- A cell's and a letter's bytes are bytes, and few; cells one behind the other, in plain words. No condition: nothing here speaks of a program. -/
namespace Go.Proofs.Ytlnpfaoeockoiaa
open Go.RowKit
theorem Octets.app {a b : List Int} (h : Octets a) (k : Octets b) : Octets (a ++ b) := fun z hz => (List.mem_append.1 hz).elim (h z) (k z)
theorem Octets.nil_ : Octets [] := fun z hz => by cases hz
theorem Octets.opt {b : Bool} {a : List Int} (h : Octets a) : Octets (if b then a else []) := by
  cases b
  · exact Octets.nil_
  · exact h
theorem octets_text7 (s : ByteArray) : Octets (text7 s) := (octets_num7 _).app (octets_strL s)
theorem octets_flg7 (f : Bool) : Octets (flg7 f) := fun z hz => by
  unfold flg7 at hz
  rw [List.mem_singleton] at hz
  subst hz
  cases f <;> decide
theorem octets_encB (b : Int × Int) : Octets (encB b) := (octets_num7 _).app (octets_num7 _)
theorem octets_encX (x : Cl) : Octets (encX x) := by
  refine (octets_num7 _).app ((octets_encB _).app ?_)
  unfold encT
  split
  · exact Octets.nil_
  · exact (octets_encB _).app ((octets_packC _).app ((octets_encN _).app (octets_flg7 _)))
theorem octets_encM (m : Lt) : Octets (encM m) :=
  (octets_num7 _).app ((octets_num7 _).app ((octets_num7 _).app ((octets_encB _).opt.app ((octets_encB _).opt.app ((octets_packC _).opt.app ((octets_encN _).opt.app ((octets_encX _).opt.app ((octets_encN _).opt.app (octets_text7 _).opt))))))))
theorem octets_encCl (x : Cl) : Octets (encCl x) := (octets_encX x).opt
theorem octets_encLt (m : Lt) : Octets (encLt m) := (octets_encM m).opt
theorem opt_len {b : Bool} {a : List Int} {n : Nat} (h : a.length ≤ n) : (if b then a else []).length ≤ n := by
  cases b
  · exact Nat.zero_le _
  · exact h
theorem encB_len (b : Int × Int) : (encB b).length ≤ 20 := by
  unfold encB
  have h1 := (num7_len b.1).2
  have h2 := (num7_len b.2).2
  rw [List.length_append]
  omega
theorem encX_len {x : Cl} (hl : x.a.length = 8) : 1 ≤ (encX x).length ∧ (encX x).length ≤ 431 := by
  have h1 := num7_len x.st
  have h2 := encB_len x.p
  have h3 := encB_len x.v
  have h4 := packC_len x.c
  have h5 := (encN_len x.a).2
  have h6 : (encT x).length ≤ 401 := by
    unfold encT
    split
    · simp
    · rw [List.length_append, List.length_append, List.length_append]
      have : (flg7 x.s).length = 1 := rfl
      omega
  unfold encX
  rw [List.length_append, List.length_append]
  omega
theorem encCl_len {x : Cl} (hl : x.a.length = 8) : (encCl x).length ≤ 431 := opt_len (encX_len hl).2
theorem encCl_pos {x : Cl} (hl : x.a.length = 8) : decide (0 < (encCl x).length) = rightCl x := by
  unfold encCl
  have := (encX_len hl).1
  cases h : rightCl x
  · rfl
  · rw [if_pos rfl, decide_eq_true_iff]; omega
theorem encM_len {m : Lt} (w : LtWf m) : (encM m).length ≤ 1000 + m.z.size := by
  have h1 := (num7_len m.k).2
  have h2 := (num7_len m.f).2
  have h3 := (num7_len m.t).2
  have h4 := opt_len (b := nmI m.k) (encB_len m.i)
  have h5 := opt_len (b := nmB m.k) (encB_len m.b)
  have h6 := opt_len (b := nmC m.k) (packC_len m.c)
  have h7 := opt_len (b := nmA m.k) (encN_len m.a).2
  have h8 := opt_len (b := nmX m.k) (encX_len w.x).2
  have h9 := opt_len (b := nmD m.k) (encN_len m.d).2
  have ha := opt_len (b := nmZ m.k) (n := 10 + m.z.size) (a := text7 m.z) (by rw [text7_len]; have := (num7_len (m.z.size : Int)).2; omega)
  have hw := w.a
  have hd := w.d
  unfold encM encR
  simp only [List.length_append]
  omega
theorem encLt_len {m : Lt} (w : LtWf m) : (encLt m).length ≤ 1000 + m.z.size := opt_len (encM_len w)
/-! ### Cells one behind the other -/
def encCs (l : List Cl) : List Int := l.flatMap encCl
def rightCs (l : List Cl) : List Cl := l.filter rightCl
theorem encCs_snoc (l : List Cl) (x : Cl) : encCs (l ++ [x]) = encCs l ++ encCl x := by unfold encCs; rw [List.flatMap_append]; simp
theorem rightCs_snoc (l : List Cl) (x : Cl) : rightCs (l ++ [x]) = rightCs l ++ (if rightCl x then [x] else []) := by
  unfold rightCs
  rw [List.filter_append, List.filter_cons, List.filter_nil]
theorem encCs_right : ∀ l : List Cl, encCs (rightCs l) = encCs l
  | [] => rfl
  | x :: r => by
    have ih := encCs_right r
    unfold encCs rightCs at ih ⊢
    rw [List.filter_cons, List.flatMap_cons]
    split
    · rw [List.flatMap_cons, ih]
    · rename_i h
      rw [ih]
      unfold encCl
      rw [if_neg h, List.nil_append]
theorem octets_encCs (l : List Cl) : Octets (encCs l) := fun z hz => by
  unfold encCs at hz
  obtain ⟨x, _, h⟩ := List.mem_flatMap.1 hz
  exact octets_encCl x z h
theorem encCs_len : ∀ {l : List Cl}, (∀ x, x ∈ l → x.a.length = 8) → (encCs l).length ≤ 431 * l.length
  | [], _ => by simp [encCs]
  | x :: r, h => by
    have ih := encCs_len (l := r) (fun y hy => h y (List.mem_cons_of_mem _ hy))
    have hx := encCl_len (h x (List.mem_cons_self ..))
    unfold encCs at ih ⊢
    rw [List.flatMap_cons, List.length_append, List.length_cons]
    omega
theorem encCs_at {l : List Cl} {j : Nat} (hj : j < l.length) : (encCs l).drop (encCs (l.take j)).length = encCl l[j] ++ encCs (l.drop (j + 1)) := by
  have e : encCs l = encCs (l.take j) ++ (encCl l[j] ++ encCs (l.drop (j + 1))) := by
    conv => lhs; rw [← List.take_append_drop j l, List.drop_eq_getElem_cons hj]
    unfold encCs
    rw [List.flatMap_append, List.flatMap_cons]
  rw [e, List.drop_left]
theorem encCs_next {l : List Cl} {j : Nat} (hj : j < l.length) : (encCs (l.take (j + 1))).length = (encCs (l.take j)).length + (encCl l[j]).length := by
  rw [List.take_succ_eq_append_getElem hj, encCs_snoc, List.length_append]
/-- The next cell of a row of right ones is read as itself. -/
theorem cell_next {l : List Cl} {j : Nat} (hj : j < l.length) (hr : ∀ x, x ∈ l → rightCl x = true ∧ x.a.length = 8) :
    dCl (encCs l) (encCs (l.take j)).length = .ok (l[j], (encCs (l.take (j + 1))).length) := by
  obtain ⟨h1, h2⟩ := hr l[j] (List.getElem_mem _)
  have e : encCl l[j] = encX l[j] := by unfold encCl; rw [if_pos h1]
  have hd := encCs_at hj
  rw [e] at hd
  rw [cl_there h1 h2 hd, encCs_next hj, e]
end Go.Proofs.Ytlnpfaoeockoiaa
/- The document's ballot, inst, attr, command, PutCell: bytes of the call's own. Conditions: numbers such as an int holds, lengths have room. -/
namespace Go.Proofs.Ytlnpfaoeockoiaa
set_option maxRecDepth 100000
open Go.RowKit
theorem len_two (a b : List Int) : (a ++ b).length = a.length + b.length := List.length_append
theorem cellb {w w' : World} {b i : Nat} {v : Value} (hb : Below w.heap.size w w') (h : w.cell? ⟨b, i, none⟩ = some v) (hl : b < w.heap.size) : w'.cell? ⟨b, i, none⟩ = some v := (hb.cell (p := ⟨b, i, none⟩) hl).trans h
set_option maxHeartbeats 4000000 in
theorem rballot_by {b0 : Nat} {v : Value} {zs : List Int} {w : World} (hv : By b0 w v zs) (hl : zs.length ≤ 140737488353500) (p : Int × Int) (h1 : I64 p.1) (h2 : I64 p.2) (hb0 : b0 ≤ w.heap.size) :
    Calls Try.prog 42 #[v, .agg #[.int .i64 p.1, .int .i64 p.2]] w fun e w' => ∃ u, e = .returned u ∧ By b0 w' u (zs ++ encB p) ∧ Below w.heap.size w w' := by
  obtain ⟨p1, p2⟩ := p
  have HL := hide (show zs.length ≤ 140737488354000 by omega)
  have HL0 := hide hl
  have H1 := hide h1
  have H2 := hide h2
  have hr := Row.new w 27 #[.int .i64 p1, .int .i64 p2]
  have HB0 := hide ((Below.refl w.heap.size w).alloc (Nat.le_refl _) (.cells #[.int .i64 p1, .int .i64 p2] 27))
  have HV := hide (hv.below HB0.out)
  have HC := hide (And.intro (And.intro (hr.cell 0) (hr.cell 1)) hr.lt)
  clear hv hr h1 h2 hl
  go_enter Try.func42, Try.ntmps42
  go_upto_region 1 with (fail)
  generalize w.alloc (.cells #[.int .i64 p1, .int .i64 p2] 27) = w1 at HV HB0 HC ⊢
  refine wp_region_noPanic ?_
  refine wp_region_T 7 (fun w' => (w'.cell? ⟨w.heap.size, 0, none⟩ = some (.int .i64 p1) ∧ w'.cell? ⟨w.heap.size, 1, none⟩ = some (.int .i64 p2)) ∧ w.heap.size < w'.heap.size) (by kernel_rfl) ?_
  have HD := hide (show (fun w' => (w'.cell? ⟨w.heap.size, 0, none⟩ = some (.int .i64 p1) ∧ w'.cell? ⟨w.heap.size, 1, none⟩ = some (.int .i64 p2)) ∧ w.heap.size < w'.heap.size) w1.drew ∧ By b0 w1.drew v zs ∧ Below w.heap.size w w1.drew from ⟨⟨⟨HC.out.1.1, HC.out.1.2⟩, HC.out.2⟩, HV.out.below (Below.refl _ _).drew, HB0.out.drew⟩)
  generalize World.drew _ = wda at HD ⊢
  refine anyT_take (i := 0) (v := ?ov0a) (by simp only [List.getElem?_toArray, List.getElem?_cons_zero]; exact rfl) (by kernel_rfl) (by kernel_rfl) (fun _ _ _ h => h) (by kernel_rfl) (by kernel_rfl) (Or.inl ⟨by rfl, ?oy0a⟩) (by with_reducible exact HD.out.1) ?or0a
  case oy0a => (intro w hSw; skip; go_simp; try with_reducible rfl)
  try simp only [Act.put, List.setIfInBounds_toArray, List.set_cons_zero, List.set_cons_succ]
  refine anyT_take (i := 1) (v := ?ov1a) (by simp only [List.getElem?_toArray, List.getElem?_cons_succ, List.getElem?_cons_zero]; exact rfl) (by kernel_rfl) (by kernel_rfl) (fun _ _ _ h => h) (by kernel_rfl) (by kernel_rfl) (Or.inl ⟨by rfl, ?oy1a⟩) (by with_reducible exact HD.out.1) ?or1a
  case oy1a => (intro w hSw; skip; go_simp; try with_reducible rfl)
  try simp only [Act.put, List.setIfInBounds_toArray, List.set_cons_zero, List.set_cons_succ]
  refine anyT_take (i := 2) (v := ?ov2a) (by simp only [List.getElem?_toArray, List.getElem?_cons_succ, List.getElem?_cons_zero]; exact rfl) (by kernel_rfl) (by kernel_rfl) (fun _ _ _ h => h) (by kernel_rfl) (by kernel_rfl) (Or.inl ⟨by rfl, ?oy2a⟩) (by with_reducible exact HD.out.1) ?or2a
  case oy2a => (intro w hSw; obtain ⟨⟨c0, c1⟩, _⟩ := hSw; go_simp; try with_reducible rfl)
  try simp only [Act.put, List.setIfInBounds_toArray, List.set_cons_zero, List.set_cons_succ]
  refine anyT_take (i := 4) (v := ?ov4a) (by simp only [List.getElem?_toArray, List.getElem?_cons_succ, List.getElem?_cons_zero]; exact rfl) (by kernel_rfl) (by kernel_rfl) (fun _ _ _ h => h) (by kernel_rfl) (by kernel_rfl) (Or.inl ⟨by rfl, ?oy4a⟩) (by with_reducible exact HD.out.1) ?or4a
  case oy4a => (intro w hSw; skip; go_simp; try with_reducible rfl)
  try simp only [Act.put, List.setIfInBounds_toArray, List.set_cons_zero, List.set_cons_succ]
  refine anyT_take (i := 5) (v := ?ov5a) (by simp only [List.getElem?_toArray, List.getElem?_cons_succ, List.getElem?_cons_zero]; exact rfl) (by kernel_rfl) (by kernel_rfl) (fun _ _ _ h => h) (by kernel_rfl) (by kernel_rfl) (Or.inl ⟨by rfl, ?oy5a⟩) (by with_reducible exact HD.out.1) ?or5a
  case oy5a => (intro w hSw; obtain ⟨⟨c0, c1⟩, _⟩ := hSw; go_simp; try with_reducible rfl)
  try simp only [Act.put, List.setIfInBounds_toArray, List.set_cons_zero, List.set_cons_succ]
  refine anyT_one (i := 3) (by kernel_rfl) (by simp only [List.getElem?_toArray, List.getElem?_cons_succ, List.getElem?_cons_zero]; exact rfl) (fun K hK => ?_)
  try go_simp
  refine (rbnum HD.out.2.1 p1 HL.out H1.out.1 H1.out.2).mono ?_
  rintro e w3a ⟨y3a, rfl, hy, hb⟩
  have HD := hide (show (fun w' => (w'.cell? ⟨w.heap.size, 0, none⟩ = some (.int .i64 p1) ∧ w'.cell? ⟨w.heap.size, 1, none⟩ = some (.int .i64 p2)) ∧ w.heap.size < w'.heap.size) w3a ∧ By b0 w3a y3a (zs ++ num7 p1) ∧ Below w.heap.size w w3a from ⟨(fun hb h => ⟨⟨cellb hb h.1.1 h.2, cellb hb h.1.2 h.2⟩, Nat.lt_of_lt_of_le h.2 hb.size⟩) hb HD.out.1, hy.mono (Nat.le_trans hb0 HD.out.2.2.size), kept_trans HD.out.2.2 hb⟩)
  have HL := hide (show (zs ++ num7 p1).length ≤ 140737488354000 from by rw [len_two]; have := (num7_len p1).2; have := HL0.out; omega)
  clear hy hb
  refine hK.out _ _ (fun _ => HD.out.1) ?_
  clear hK K
  try simp only [Act.put, List.setIfInBounds_toArray, List.set_cons_zero, List.set_cons_succ]
  refine anyT_one (i := 6) (by kernel_rfl) (by simp only [List.getElem?_toArray, List.getElem?_cons_succ, List.getElem?_cons_zero]; exact rfl) (fun K hK => ?_)
  try go_simp
  refine (rbnum HD.out.2.1 p2 HL.out H2.out.1 H2.out.2).mono ?_
  rintro e w6a ⟨y6a, rfl, hy, hb⟩
  have HD := hide (show (fun w' => (w'.cell? ⟨w.heap.size, 0, none⟩ = some (.int .i64 p1) ∧ w'.cell? ⟨w.heap.size, 1, none⟩ = some (.int .i64 p2)) ∧ w.heap.size < w'.heap.size) w6a ∧ By b0 w6a y6a ((zs ++ num7 p1) ++ num7 p2) ∧ Below w.heap.size w w6a from ⟨(fun hb h => ⟨⟨cellb hb h.1.1 h.2, cellb hb h.1.2 h.2⟩, Nat.lt_of_lt_of_le h.2 hb.size⟩) hb HD.out.1, hy.mono (Nat.le_trans hb0 HD.out.2.2.size), kept_trans HD.out.2.2 hb⟩)
  have HL := hide (show ((zs ++ num7 p1) ++ num7 p2).length ≤ 140737488354000 from by rw [len_two, len_two]; have := (num7_len p1).2; have := (num7_len p2).2; have := HL0.out; omega)
  clear hy hb
  refine hK.out _ _ (fun _ => HD.out.1) ?_
  clear hK K
  try simp only [Act.put, List.setIfInBounds_toArray, List.set_cons_zero, List.set_cons_succ]
  refine anyT_one (i := 7) (by kernel_rfl) (by simp only [List.getElem?_toArray, List.getElem?_cons_succ, List.getElem?_cons_zero]; exact rfl) (fun K hK => ?_)
  try go_simp
  refine hK.out _ _ (fun e => absurd rfl e) ?_
  clear hK K
  refine anyT_done (by kernel_rfl) ?_
  refine NoPanic.normal ?_
  try simp only [Act.put]
  go_wp2
  go_ret
  refine ⟨_, rfl, ?_, HD.out.2.2⟩
  unfold encB
  rw [← List.append_assoc]
  exact HD.out.2.1
set_option maxHeartbeats 4000000 in
theorem rinst_by {b0 : Nat} {v : Value} {zs : List Int} {w : World} (hv : By b0 w v zs) (hl : zs.length ≤ 140737488353500) (p : Int × Int) (h1 : I64 p.1) (h2 : I64 p.2) (hb0 : b0 ≤ w.heap.size) :
    Calls Try.prog 57 #[v, .agg #[.int .i64 p.1, .int .i64 p.2]] w fun e w' => ∃ u, e = .returned u ∧ By b0 w' u (zs ++ encB p) ∧ Below w.heap.size w w' := by
  obtain ⟨p1, p2⟩ := p
  have HL := hide (show zs.length ≤ 140737488354000 by omega)
  have HL0 := hide hl
  have H1 := hide h1
  have H2 := hide h2
  have hr := Row.new w 25 #[.int .i64 p1, .int .i64 p2]
  have HB0 := hide ((Below.refl w.heap.size w).alloc (Nat.le_refl _) (.cells #[.int .i64 p1, .int .i64 p2] 25))
  have HV := hide (hv.below HB0.out)
  have HC := hide (And.intro (And.intro (hr.cell 0) (hr.cell 1)) hr.lt)
  clear hv hr h1 h2 hl
  go_enter Try.func57, Try.ntmps57
  go_upto_region 1 with (fail)
  generalize w.alloc (.cells #[.int .i64 p1, .int .i64 p2] 25) = w1 at HV HB0 HC ⊢
  refine wp_region_noPanic ?_
  refine wp_region_T 7 (fun w' => (w'.cell? ⟨w.heap.size, 0, none⟩ = some (.int .i64 p1) ∧ w'.cell? ⟨w.heap.size, 1, none⟩ = some (.int .i64 p2)) ∧ w.heap.size < w'.heap.size) (by kernel_rfl) ?_
  have HD := hide (show (fun w' => (w'.cell? ⟨w.heap.size, 0, none⟩ = some (.int .i64 p1) ∧ w'.cell? ⟨w.heap.size, 1, none⟩ = some (.int .i64 p2)) ∧ w.heap.size < w'.heap.size) w1.drew ∧ By b0 w1.drew v zs ∧ Below w.heap.size w w1.drew from ⟨⟨⟨HC.out.1.1, HC.out.1.2⟩, HC.out.2⟩, HV.out.below (Below.refl _ _).drew, HB0.out.drew⟩)
  generalize World.drew _ = wda at HD ⊢
  refine anyT_take (i := 0) (v := ?ov0a) (by simp only [List.getElem?_toArray, List.getElem?_cons_zero]; exact rfl) (by kernel_rfl) (by kernel_rfl) (fun _ _ _ h => h) (by kernel_rfl) (by kernel_rfl) (Or.inl ⟨by rfl, ?oy0a⟩) (by with_reducible exact HD.out.1) ?or0a
  case oy0a => (intro w hSw; skip; go_simp; try with_reducible rfl)
  try simp only [Act.put, List.setIfInBounds_toArray, List.set_cons_zero, List.set_cons_succ]
  refine anyT_take (i := 1) (v := ?ov1a) (by simp only [List.getElem?_toArray, List.getElem?_cons_succ, List.getElem?_cons_zero]; exact rfl) (by kernel_rfl) (by kernel_rfl) (fun _ _ _ h => h) (by kernel_rfl) (by kernel_rfl) (Or.inl ⟨by rfl, ?oy1a⟩) (by with_reducible exact HD.out.1) ?or1a
  case oy1a => (intro w hSw; skip; go_simp; try with_reducible rfl)
  try simp only [Act.put, List.setIfInBounds_toArray, List.set_cons_zero, List.set_cons_succ]
  refine anyT_take (i := 2) (v := ?ov2a) (by simp only [List.getElem?_toArray, List.getElem?_cons_succ, List.getElem?_cons_zero]; exact rfl) (by kernel_rfl) (by kernel_rfl) (fun _ _ _ h => h) (by kernel_rfl) (by kernel_rfl) (Or.inl ⟨by rfl, ?oy2a⟩) (by with_reducible exact HD.out.1) ?or2a
  case oy2a => (intro w hSw; obtain ⟨⟨c0, c1⟩, _⟩ := hSw; go_simp; try with_reducible rfl)
  try simp only [Act.put, List.setIfInBounds_toArray, List.set_cons_zero, List.set_cons_succ]
  refine anyT_take (i := 4) (v := ?ov4a) (by simp only [List.getElem?_toArray, List.getElem?_cons_succ, List.getElem?_cons_zero]; exact rfl) (by kernel_rfl) (by kernel_rfl) (fun _ _ _ h => h) (by kernel_rfl) (by kernel_rfl) (Or.inl ⟨by rfl, ?oy4a⟩) (by with_reducible exact HD.out.1) ?or4a
  case oy4a => (intro w hSw; skip; go_simp; try with_reducible rfl)
  try simp only [Act.put, List.setIfInBounds_toArray, List.set_cons_zero, List.set_cons_succ]
  refine anyT_take (i := 5) (v := ?ov5a) (by simp only [List.getElem?_toArray, List.getElem?_cons_succ, List.getElem?_cons_zero]; exact rfl) (by kernel_rfl) (by kernel_rfl) (fun _ _ _ h => h) (by kernel_rfl) (by kernel_rfl) (Or.inl ⟨by rfl, ?oy5a⟩) (by with_reducible exact HD.out.1) ?or5a
  case oy5a => (intro w hSw; obtain ⟨⟨c0, c1⟩, _⟩ := hSw; go_simp; try with_reducible rfl)
  try simp only [Act.put, List.setIfInBounds_toArray, List.set_cons_zero, List.set_cons_succ]
  refine anyT_one (i := 3) (by kernel_rfl) (by simp only [List.getElem?_toArray, List.getElem?_cons_succ, List.getElem?_cons_zero]; exact rfl) (fun K hK => ?_)
  try go_simp
  refine (rbnum HD.out.2.1 p1 HL.out H1.out.1 H1.out.2).mono ?_
  rintro e w3a ⟨y3a, rfl, hy, hb⟩
  have HD := hide (show (fun w' => (w'.cell? ⟨w.heap.size, 0, none⟩ = some (.int .i64 p1) ∧ w'.cell? ⟨w.heap.size, 1, none⟩ = some (.int .i64 p2)) ∧ w.heap.size < w'.heap.size) w3a ∧ By b0 w3a y3a (zs ++ num7 p1) ∧ Below w.heap.size w w3a from ⟨(fun hb h => ⟨⟨cellb hb h.1.1 h.2, cellb hb h.1.2 h.2⟩, Nat.lt_of_lt_of_le h.2 hb.size⟩) hb HD.out.1, hy.mono (Nat.le_trans hb0 HD.out.2.2.size), kept_trans HD.out.2.2 hb⟩)
  have HL := hide (show (zs ++ num7 p1).length ≤ 140737488354000 from by rw [len_two]; have := (num7_len p1).2; have := HL0.out; omega)
  clear hy hb
  refine hK.out _ _ (fun _ => HD.out.1) ?_
  clear hK K
  try simp only [Act.put, List.setIfInBounds_toArray, List.set_cons_zero, List.set_cons_succ]
  refine anyT_one (i := 6) (by kernel_rfl) (by simp only [List.getElem?_toArray, List.getElem?_cons_succ, List.getElem?_cons_zero]; exact rfl) (fun K hK => ?_)
  try go_simp
  refine (rbnum HD.out.2.1 p2 HL.out H2.out.1 H2.out.2).mono ?_
  rintro e w6a ⟨y6a, rfl, hy, hb⟩
  have HD := hide (show (fun w' => (w'.cell? ⟨w.heap.size, 0, none⟩ = some (.int .i64 p1) ∧ w'.cell? ⟨w.heap.size, 1, none⟩ = some (.int .i64 p2)) ∧ w.heap.size < w'.heap.size) w6a ∧ By b0 w6a y6a ((zs ++ num7 p1) ++ num7 p2) ∧ Below w.heap.size w w6a from ⟨(fun hb h => ⟨⟨cellb hb h.1.1 h.2, cellb hb h.1.2 h.2⟩, Nat.lt_of_lt_of_le h.2 hb.size⟩) hb HD.out.1, hy.mono (Nat.le_trans hb0 HD.out.2.2.size), kept_trans HD.out.2.2 hb⟩)
  have HL := hide (show ((zs ++ num7 p1) ++ num7 p2).length ≤ 140737488354000 from by rw [len_two, len_two]; have := (num7_len p1).2; have := (num7_len p2).2; have := HL0.out; omega)
  clear hy hb
  refine hK.out _ _ (fun _ => HD.out.1) ?_
  clear hK K
  try simp only [Act.put, List.setIfInBounds_toArray, List.set_cons_zero, List.set_cons_succ]
  refine anyT_one (i := 7) (by kernel_rfl) (by simp only [List.getElem?_toArray, List.getElem?_cons_succ, List.getElem?_cons_zero]; exact rfl) (fun K hK => ?_)
  try go_simp
  refine hK.out _ _ (fun e => absurd rfl e) ?_
  clear hK K
  refine anyT_done (by kernel_rfl) ?_
  refine NoPanic.normal ?_
  try simp only [Act.put]
  go_wp2
  go_ret
  refine ⟨_, rfl, ?_, HD.out.2.2⟩
  unfold encB
  rw [← List.append_assoc]
  exact HD.out.2.1
theorem encN_take {a : List Int} {k : Nat} (h : k < a.length) : encN (a.take (k + 1)) = encN (a.take k) ++ num7 (ix a k) := by
  rw [List.take_succ_eq_append_getElem h, ix_lt a h]
  unfold encN
  rw [List.flatMap_append, List.flatMap_cons, List.flatMap_nil, List.append_nil]
theorem cA_cell {w : World} {g : Nat} {t : TypeId} {a : List Int} (h : Row w g t (cA a)) {k : Nat} (hk : k < a.length) : w.cell? ⟨g, k, none⟩ = some (.int .i64 (ix a k)) := by
  rw [h.cell]
  unfold cA
  rw [List.getElem?_toArray]
  exact cellsR_at a hk
set_option maxHeartbeats 4000000 in
theorem rattr_by {b0 : Nat} {v : Value} {zs : List Int} {w : World} (hv : By b0 w v zs) (hl : zs.length ≤ 140737488353500) {a : List Int} (h8 : a.length = 8) (ho : ∀ n, n ∈ a → I64 n) (hb0 : b0 ≤ w.heap.size) :
    Calls Try.prog 45 #[v, .agg (cA a)] w fun e w' => ∃ u, e = .returned u ∧ By b0 w' u (zs ++ encN a) ∧ Below w.heap.size w w' := by
  have HI := hide (fun (k : Nat) (hk : k < 8) => ho (ix a k) (by rw [ix_lt a (by omega)]; exact List.getElem_mem _))
  have HT := hide (fun (k : Nat) (hk : k < 8) => encN_take (a := a) (k := k) (by omega))
  have HN := hide (fun (k : Nat) => (encN_len (a.take k)).2)
  have HB0 := hide ((Below.refl w.heap.size w).alloc (Nat.le_refl _) (.cells (cA a) 33))
  have HV := hide (hv.below HB0.out)
  have HR := hide (Row.new w 33 (cA a))
  have H8 := hide h8
  have HL := hide hl
  have HBB := hide hb0
  have c0 := cA_cell HR.out (k := 0) (by omega)
  clear hv hl ho hb0 h8
  go_enter Try.func45, Try.ntmps45
  go_upto_region 1 with (fail)
  generalize w.alloc (.cells (cA a) 33) = w1 at HV HB0 HR c0 ⊢
  have HN1 := hide (rbnum HV.out (ix a 0) (by have := HL.out; omega) (HI.out 0 (by omega)).1 (HI.out 0 (by omega)).2)
  go_upto_region 2 with (go_at_call 43; (with_reducible refine HN1.out.mono ?_); rintro e w2 ⟨u, rfl, hy, hb⟩)
  have HB2 := hide (kept_trans HB0.out hb)
  have HR2 := hide (HR.out.below hb HR.out.lt)
  have HY2 := hide (show By b0 w2 u (zs ++ encN (a.take 1)) by rw [HT.out 0 (by omega), List.take_zero]; exact hy.mono (Nat.le_trans HBB.out HB0.out.size))
  clear hy hb c0 HV HN1
  go_wp2
  go_loopw [0, 5] (fun b i wr => ∃ k : Nat, k ≤ 7 ∧ i = .int .i64 k ∧ Hid (By b0 wr b (zs ++ encN (a.take (1 + k)))) ∧ Hid (Row wr w.heap.size 33 (cA a)) ∧ Hid (Below w.heap.size w wr)) (fun _ i _ => 7 - (intOf i).toNat)
  case atStart => exact ⟨0, by omega, rfl, HY2, HR2, HB2⟩
  case round =>
    clear HB2 HR2 HY2
    obtain ⟨k, hk, rfl, HY, HR, HB⟩ := hrel
    by_cases hlt : k < 7
    · have k7 : (k : Int) < 7 := by omega
      have cq := cA_cell HR.out (k := 1 + k) (by have := H8.out; omega)
      have HQ := hide (HI.out (1 + k) (by omega))
      have HS := hide (HT.out (1 + k) (by omega))
      have HLL := hide (show (zs ++ encN (a.take (1 + k))).length ≤ 140737488354000 by rw [len_two]; have := HN.out (1 + k); rw [List.length_take] at this; have := HL.out; omega)
      generalize ix a (1 + k) = q at cq HQ HS
      have HN2 := hide (rbnum HY.out q HLL.out HQ.out.1 HQ.out.2)
      go_wp2_with (go_at_call 43; (with_reducible refine HN2.out.mono ?_); rintro e w3 ⟨u3, rfl, hy, hb⟩)
      have HY3 := hide (show By b0 w3 u3 (zs ++ encN (a.take (1 + (k + 1)))) by rw [← Nat.add_assoc, HS.out, ← List.append_assoc]; exact hy.mono (Nat.le_trans HBB.out HB.out.size))
      have HR3 := hide (HR.out.below hb HR.out.lt)
      have HB3 := hide (kept_trans HB.out hb)
      clear hy hb
      go_roundw
      case rel => exact ⟨k + 1, by omega, by go_num, HY3, HR3, HB3⟩
      case measure => simp [intOf]; omega
    · obtain rfl : k = 7 := by omega
      have HE := hide (show encN (a.take (1 + 7)) = encN a by rw [List.take_of_length_le (by have := H8.out; omega)])
      go_wp2
      go_ret
      exact ⟨_, rfl, by rw [← HE.out]; exact HY.out, HB.out⟩
end Go.Proofs.Ytlnpfaoeockoiaa
/- The document's command: a right command's bytes behind bytes of the call's own. Conditions: lengths have room. -/
namespace Go.Proofs.Ytlnpfaoeockoiaa
set_option maxRecDepth 100000
open Go.RowKit
theorem Row.cm {w : World} {g : Nat} {t : TypeId} {x : Cm} (h : Row w g t (rowC x)) : w.cell? ⟨g, 0, none⟩ = some (.int .i64 x.k) ∧ w.cell? ⟨g, 1, none⟩ = some (.int .i64 x.c) ∧ w.cell? ⟨g, 2, none⟩ = some (.int .i64 x.q) ∧ w.cell? ⟨g, 3, none⟩ = some (.string x.key) ∧
    w.cell? ⟨g, 4, none⟩ = some (.string x.en) ∧ w.cell? ⟨g, 5, none⟩ = some (.string x.old) ∧ w.cell? ⟨g, 6, none⟩ = some (.string x.val) := ⟨h.cell 0, h.cell 1, h.cell 2, h.cell 3, h.cell 4, h.cell 5, h.cell 6⟩
set_option maxHeartbeats 8000000 in
theorem rcommand_by {b0 : Nat} {v : Value} {zs : List Int} {w : World} (hv : By b0 w v zs) (hl : zs.length ≤ 140737488353500) (x : Cm) (hr : rightC x = true) (hb0 : b0 ≤ w.heap.size) :
    Calls Try.prog 46 #[v, .agg #[.int .i64 x.k, .int .i64 x.c, .int .i64 x.q, .string x.key, .string x.en, .string x.old, .string x.val]] w fun e w' => ∃ u, e = .returned u ∧ By b0 w' u (zs ++ packC x) ∧ Below w.heap.size w w' := by
  have hp : packC x = bytesC x := by unfold packC; rw [hr]; rfl
  rw [hp]
  have HL0 := hide hl
  have HBB := hide hb0
  have HB0 := hide ((Below.refl w.heap.size w).alloc (Nat.le_refl _) (.cells (rowC x) 29))
  have HV := hide (hv.below HB0.out)
  have HR := hide (Row.new w 29 (rowC x))
  by_cases hk : x.k = 0
  · have hx := right_zero hr hk
    subst hx
    clear hr hp hv hl hb0
    have HN1 := hide (rbnum HV.out 0 (by have := HL0.out; omega) (by omega) (by omega))
    obtain ⟨c0, c1, c2, c3, c4, c5, c6⟩ := HR.out.cm
    obtain ⟨w1, hw1⟩ : ∃ w1, w.alloc (.cells (rowC zeroC) 29) = w1 := ⟨_, rfl⟩
    rw [hw1] at HB0 HV HR HN1 c0
    replace c0 : w1.cell? ⟨w.heap.size, 0, none⟩ = some (.int .i64 0) := c0
    clear c1 c2 c3 c4 c5 c6
    go_enter Try.func46, Try.ntmps46
    go_upto_region 1 with (fail)
    generalize hg : World.alloc w _ = wg
    have hg2 : wg = w1 := hg.symm.trans hw1
    clear hg hw1
    subst hg2
    go_upto_region 2 with (go_at_call 43; (with_reducible refine HN1.out.mono ?_); rintro e w2 ⟨u, rfl, hy, hb⟩)
    have HB2 := hide (kept_trans HB0.out hb)
    have d0 := cellb hb c0 HR.out.lt
    have HY2 := hide (show By b0 w2 u (zs ++ bytesC zeroC) from hy.mono (Nat.le_trans HBB.out HB0.out.size))
    clear hy hb c0 HV HN1
    go_wp2
    go_ret
    exact ⟨_, rfl, HY2.out, HB2.out⟩
  · obtain ⟨hn, hbd, k1, k5⟩ := right_kind hr hk
    obtain ⟨q1, q8, q2, qm, sa, sb, so, sv⟩ := bound_says hbd
    clear hr hp hv hl hb0 hbd hn
    obtain ⟨k, c, q, ka, kb, ko, kv⟩ := x
    dsimp only at hk k1 k5 q1 q8 q2 qm sa sb so sv
    have HSZ := hide (And.intro sa (And.intro sb (And.intro so sv)))
    have HQ := hide (And.intro (And.intro q1 q8) (And.intro q2 qm))
    have HN1 := hide (rbnum HV.out k (by have := HL0.out; omega) (by omega) (by omega))
    clear sa sb so sv q1 q8 q2 qm k1 k5
    obtain ⟨c0, c1, c2, c3, c4, c5, c6⟩ := HR.out.cm
    dsimp only at c0
    obtain ⟨w1, hw1⟩ : ∃ w1, w.alloc (.cells (rowC ⟨k, c, q, ka, kb, ko, kv⟩) 29) = w1 := ⟨_, rfl⟩
    rw [hw1] at HB0 HV HR HN1 c0
    go_enter Try.func46, Try.ntmps46
    go_upto_region 1 with (fail)
    generalize hg : World.alloc w _ = wg
    have hg2 : wg = w1 := hg.symm.trans hw1
    clear hg hw1
    subst hg2
    go_upto_region 2 with (go_at_call 43; (with_reducible refine HN1.out.mono ?_); rintro e w2 ⟨u, rfl, hy, hb⟩)
    have HB2 := hide (kept_trans HB0.out hb)
    have HR2 := hide (HR.out.below hb HR.out.lt)
    have d0 := cellb hb c0 HR.out.lt
    have HY2 := hide (show By b0 w2 u (zs ++ num7 k) from hy.mono (Nat.le_trans HBB.out HB0.out.size))
    have HL := hide (show (zs ++ num7 k).length ≤ 140737488354000 from by rw [len_two]; have := HL0.out; have := (num7_len k).2; omega)
    clear hy hb c0 HV HN1 HR HB0
    go_upto_region 4 with (fail)
    clear d0
    refine wp_region_noPanic ?_
    refine wp_region_T 10 (fun w' => Row w' w.heap.size 29 (rowC ⟨k, c, q, ka, kb, ko, kv⟩)) (by kernel_rfl) ?_
    have HD := hide (show (fun w' => Row w' w.heap.size 29 (rowC ⟨k, c, q, ka, kb, ko, kv⟩)) w2.drew ∧ By b0 w2.drew u (zs ++ num7 k) ∧ Below w.heap.size w w2.drew from ⟨HR2.out.drewN 1, HY2.out.below (Below.refl _ _).drew, HB2.out.drew⟩)
    generalize World.drew _ = wdd at HD ⊢
    refine anyT_take (i := 0) (v := ?ov0d) (by simp only [List.getElem?_toArray, List.getElem?_cons_zero]; exact rfl) (by kernel_rfl) (by kernel_rfl) (fun _ _ _ h => h) (by kernel_rfl) (by kernel_rfl) (Or.inl ⟨by rfl, ?oy0d⟩) (by with_reducible exact HD.out.1) ?or0d
    case oy0d => (intro w hSw; skip; go_simp; try with_reducible rfl)
    try simp only [Act.put, List.setIfInBounds_toArray, List.set_cons_zero, List.set_cons_succ]
    refine anyT_take (i := 1) (v := ?ov1d) (by simp only [List.getElem?_toArray, List.getElem?_cons_succ, List.getElem?_cons_zero]; exact rfl) (by kernel_rfl) (by kernel_rfl) (fun _ _ _ h => h) (by kernel_rfl) (by kernel_rfl) (Or.inl ⟨by rfl, ?oy1d⟩) (by with_reducible exact HD.out.1) ?or1d
    case oy1d => (intro w hSw; skip; go_simp; try with_reducible rfl)
    try simp only [Act.put, List.setIfInBounds_toArray, List.set_cons_zero, List.set_cons_succ]
    refine anyT_take (i := 2) (v := ?ov2d) (by simp only [List.getElem?_toArray, List.getElem?_cons_succ, List.getElem?_cons_zero]; exact rfl) (by kernel_rfl) (by kernel_rfl) (fun _ _ _ h => h) (by kernel_rfl) (by kernel_rfl) (Or.inl ⟨by rfl, ?oy2d⟩) (by with_reducible exact HD.out.1) ?or2d
    case oy2d => (intro w hSw; obtain ⟨c0, c1, c2, c3, c4, c5, c6⟩ := hSw.cm; (try dsimp only at c0 c1 c2 c3 c4 c5 c6); go_simp; try with_reducible rfl)
    try simp only [Act.put, List.setIfInBounds_toArray, List.set_cons_zero, List.set_cons_succ]
    refine anyT_take (i := 4) (v := ?ov4d) (by simp only [List.getElem?_toArray, List.getElem?_cons_succ, List.getElem?_cons_zero]; exact rfl) (by kernel_rfl) (by kernel_rfl) (fun _ _ _ h => h) (by kernel_rfl) (by kernel_rfl) (Or.inl ⟨by rfl, ?oy4d⟩) (by with_reducible exact HD.out.1) ?or4d
    case oy4d => (intro w hSw; skip; go_simp; try with_reducible rfl)
    try simp only [Act.put, List.setIfInBounds_toArray, List.set_cons_zero, List.set_cons_succ]
    refine anyT_take (i := 5) (v := ?ov5d) (by simp only [List.getElem?_toArray, List.getElem?_cons_succ, List.getElem?_cons_zero]; exact rfl) (by kernel_rfl) (by kernel_rfl) (fun _ _ _ h => h) (by kernel_rfl) (by kernel_rfl) (Or.inl ⟨by rfl, ?oy5d⟩) (by with_reducible exact HD.out.1) ?or5d
    case oy5d => (intro w hSw; obtain ⟨c0, c1, c2, c3, c4, c5, c6⟩ := hSw.cm; (try dsimp only at c0 c1 c2 c3 c4 c5 c6); go_simp; try with_reducible rfl)
    try simp only [Act.put, List.setIfInBounds_toArray, List.set_cons_zero, List.set_cons_succ]
    refine anyT_take (i := 7) (v := ?ov7d) (by simp only [List.getElem?_toArray, List.getElem?_cons_succ, List.getElem?_cons_zero]; exact rfl) (by kernel_rfl) (by kernel_rfl) (fun _ _ _ h => h) (by kernel_rfl) (by kernel_rfl) (Or.inl ⟨by rfl, ?oy7d⟩) (by with_reducible exact HD.out.1) ?or7d
    case oy7d => (intro w hSw; skip; go_simp; try with_reducible rfl)
    try simp only [Act.put, List.setIfInBounds_toArray, List.set_cons_zero, List.set_cons_succ]
    refine anyT_take (i := 8) (v := ?ov8d) (by simp only [List.getElem?_toArray, List.getElem?_cons_succ, List.getElem?_cons_zero]; exact rfl) (by kernel_rfl) (by kernel_rfl) (fun _ _ _ h => h) (by kernel_rfl) (by kernel_rfl) (Or.inl ⟨by rfl, ?oy8d⟩) (by with_reducible exact HD.out.1) ?or8d
    case oy8d => (intro w hSw; obtain ⟨c0, c1, c2, c3, c4, c5, c6⟩ := hSw.cm; (try dsimp only at c0 c1 c2 c3 c4 c5 c6); go_simp; try with_reducible rfl)
    try simp only [Act.put, List.setIfInBounds_toArray, List.set_cons_zero, List.set_cons_succ]
    refine anyT_one (i := 3) (by kernel_rfl) (by simp only [List.getElem?_toArray, List.getElem?_cons_succ, List.getElem?_cons_zero]; exact rfl) (fun K hK => ?_)
    try go_simp
    refine (rbnum HD.out.2.1 c HL.out (by have := HQ.out; omega) (by have := HQ.out; omega)).mono ?_
    rintro e w3d ⟨y3d, rfl, hy, hb⟩
    have HD := hide (show (fun w' => Row w' w.heap.size 29 (rowC ⟨k, c, q, ka, kb, ko, kv⟩)) w3d ∧ By b0 w3d y3d ((zs ++ num7 k) ++ num7 c) ∧ Below w.heap.size w w3d from ⟨(fun hb h => Row.below h hb h.lt) hb HD.out.1, hy.mono (Nat.le_trans HBB.out HD.out.2.2.size), kept_trans HD.out.2.2 hb⟩)
    have HL := hide (show ((zs ++ num7 k) ++ num7 c).length ≤ 140737488354000 from by rw [len_two, len_two]; have := HL0.out; have := (num7_len k).2; have := (num7_len c).2; have := (num7_len q).2; have := (num7_len (ka.size : Int)).2; have := (num7_len (ko.size : Int)).2; have := (num7_len (kv.size : Int)).2; have := HSZ.out; omega)
    clear hy hb
    refine hK.out _ _ (fun _ => HD.out.1) ?_
    clear hK K
    try simp only [Act.put, List.setIfInBounds_toArray, List.set_cons_zero, List.set_cons_succ]
    refine anyT_one (i := 6) (by kernel_rfl) (by simp only [List.getElem?_toArray, List.getElem?_cons_succ, List.getElem?_cons_zero]; exact rfl) (fun K hK => ?_)
    try go_simp
    refine (rbnum HD.out.2.1 q HL.out (by have := HQ.out; omega) (by have := HQ.out; omega)).mono ?_
    rintro e w6d ⟨y6d, rfl, hy, hb⟩
    have HD := hide (show (fun w' => Row w' w.heap.size 29 (rowC ⟨k, c, q, ka, kb, ko, kv⟩)) w6d ∧ By b0 w6d y6d (((zs ++ num7 k) ++ num7 c) ++ num7 q) ∧ Below w.heap.size w w6d from ⟨(fun hb h => Row.below h hb h.lt) hb HD.out.1, hy.mono (Nat.le_trans HBB.out HD.out.2.2.size), kept_trans HD.out.2.2 hb⟩)
    have HL := hide (show (((zs ++ num7 k) ++ num7 c) ++ num7 q).length ≤ 140737488354000 from by rw [len_two, len_two, len_two]; have := HL0.out; have := (num7_len k).2; have := (num7_len c).2; have := (num7_len q).2; have := (num7_len (ka.size : Int)).2; have := (num7_len (ko.size : Int)).2; have := (num7_len (kv.size : Int)).2; have := HSZ.out; omega)
    clear hy hb
    refine hK.out _ _ (fun _ => HD.out.1) ?_
    clear hK K
    try simp only [Act.put, List.setIfInBounds_toArray, List.set_cons_zero, List.set_cons_succ]
    refine anyT_one (i := 9) (by kernel_rfl) (by simp only [List.getElem?_toArray, List.getElem?_cons_succ, List.getElem?_cons_zero]; exact rfl) (fun K hK => ?_)
    try go_simp
    refine (rbtext HD.out.2.1 ka HL.out (by have := HSZ.out; omega)).mono ?_
    rintro e w9d ⟨y9d, rfl, hy, hb⟩
    have HD := hide (show (fun w' => Row w' w.heap.size 29 (rowC ⟨k, c, q, ka, kb, ko, kv⟩)) w9d ∧ By b0 w9d y9d ((((zs ++ num7 k) ++ num7 c) ++ num7 q) ++ text7 ka) ∧ Below w.heap.size w w9d from ⟨(fun hb h => Row.below h hb h.lt) hb HD.out.1, hy.mono (Nat.le_trans HBB.out HD.out.2.2.size), kept_trans HD.out.2.2 hb⟩)
    have HL := hide (show ((((zs ++ num7 k) ++ num7 c) ++ num7 q) ++ text7 ka).length ≤ 140737488354000 from by rw [len_two, len_two, len_two, len_two, text7_len]; have := HL0.out; have := (num7_len k).2; have := (num7_len c).2; have := (num7_len q).2; have := (num7_len (ka.size : Int)).2; have := (num7_len (ko.size : Int)).2; have := (num7_len (kv.size : Int)).2; have := HSZ.out; omega)
    clear hy hb
    refine hK.out _ _ (fun _ => HD.out.1) ?_
    clear hK K
    try simp only [Act.put, List.setIfInBounds_toArray, List.set_cons_zero, List.set_cons_succ]
    refine anyT_one (i := 10) (by kernel_rfl) (by simp only [List.getElem?_toArray, List.getElem?_cons_succ, List.getElem?_cons_zero]; exact rfl) (fun K hK => ?_)
    try go_simp
    refine hK.out _ _ (fun e => absurd rfl e) ?_
    clear hK K
    refine anyT_done (by kernel_rfl) ?_
    refine NoPanic.normal ?_
    try simp only [Act.put]
    generalize w9d = w3, y9d = u3 at HD ⊢
    have HD3 := hide HD.out
    have HL3 := hide HL.out
    obtain ⟨c0, c1, c2, c3, c4, c5, c6⟩ := HD3.out.1.cm
    dsimp only at c0 c1 c2 c3 c4 c5 c6
    by_cases g2 : k = 2
    · subst g2
      have HT := hide (rbtext HD3.out.2.1 kv HL3.out (by have := HSZ.out; omega))
      go_wp2_with (go_at_call 58; (with_reducible refine HT.out.mono ?_); rintro e w4 ⟨u4, rfl, hy, hb⟩)
      go_ret
      refine ⟨_, rfl, ?_, kept_trans HD3.out.2.2 hb⟩
      have e : ((((zs ++ num7 2) ++ num7 c) ++ num7 q) ++ text7 ka) ++ text7 kv = zs ++ bytesC ⟨2, c, q, ka, kb, ko, kv⟩ := by unfold bytesC tailC; simp [List.append_assoc]
      rw [← e]
      exact hy.mono (Nat.le_trans HBB.out HD3.out.2.2.size)
    · by_cases g4 : k = 4
      · subst g4
        go_upto_region 9 with (fail)
        clear c0 c1 c2 c3 c4 c5 c6
        refine wp_region_noPanic ?_
        refine wp_region_T 7 (fun w' => Row w' w.heap.size 29 (rowC ⟨4, c, q, ka, kb, ko, kv⟩)) (by kernel_rfl) ?_
        have HD := hide (show (fun w' => Row w' w.heap.size 29 (rowC ⟨4, c, q, ka, kb, ko, kv⟩)) w3.drew ∧ By b0 w3.drew u3 ((((zs ++ num7 4) ++ num7 c) ++ num7 q) ++ text7 ka) ∧ Below w.heap.size w w3.drew from ⟨HD3.out.1.drewN 1, HD3.out.2.1.below (Below.refl _ _).drew, HD3.out.2.2.drew⟩)
        have HL := hide HL3.out
        generalize World.drew _ = wde at HD ⊢
        refine anyT_take (i := 0) (v := ?ov0e) (by simp only [List.getElem?_toArray, List.getElem?_cons_zero]; exact rfl) (by kernel_rfl) (by kernel_rfl) (fun _ _ _ h => h) (by kernel_rfl) (by kernel_rfl) (Or.inl ⟨by rfl, ?oy0e⟩) (by with_reducible exact HD.out.1) ?or0e
        case oy0e => (intro w hSw; skip; go_simp; try with_reducible rfl)
        try simp only [Act.put, List.setIfInBounds_toArray, List.set_cons_zero, List.set_cons_succ]
        refine anyT_take (i := 1) (v := ?ov1e) (by simp only [List.getElem?_toArray, List.getElem?_cons_succ, List.getElem?_cons_zero]; exact rfl) (by kernel_rfl) (by kernel_rfl) (fun _ _ _ h => h) (by kernel_rfl) (by kernel_rfl) (Or.inl ⟨by rfl, ?oy1e⟩) (by with_reducible exact HD.out.1) ?or1e
        case oy1e => (intro w hSw; skip; go_simp; try with_reducible rfl)
        try simp only [Act.put, List.setIfInBounds_toArray, List.set_cons_zero, List.set_cons_succ]
        refine anyT_take (i := 2) (v := ?ov2e) (by simp only [List.getElem?_toArray, List.getElem?_cons_succ, List.getElem?_cons_zero]; exact rfl) (by kernel_rfl) (by kernel_rfl) (fun _ _ _ h => h) (by kernel_rfl) (by kernel_rfl) (Or.inl ⟨by rfl, ?oy2e⟩) (by with_reducible exact HD.out.1) ?or2e
        case oy2e => (intro w hSw; obtain ⟨c0, c1, c2, c3, c4, c5, c6⟩ := hSw.cm; (try dsimp only at c0 c1 c2 c3 c4 c5 c6); go_simp; try with_reducible rfl)
        try simp only [Act.put, List.setIfInBounds_toArray, List.set_cons_zero, List.set_cons_succ]
        refine anyT_take (i := 4) (v := ?ov4e) (by simp only [List.getElem?_toArray, List.getElem?_cons_succ, List.getElem?_cons_zero]; exact rfl) (by kernel_rfl) (by kernel_rfl) (fun _ _ _ h => h) (by kernel_rfl) (by kernel_rfl) (Or.inl ⟨by rfl, ?oy4e⟩) (by with_reducible exact HD.out.1) ?or4e
        case oy4e => (intro w hSw; skip; go_simp; try with_reducible rfl)
        try simp only [Act.put, List.setIfInBounds_toArray, List.set_cons_zero, List.set_cons_succ]
        refine anyT_take (i := 5) (v := ?ov5e) (by simp only [List.getElem?_toArray, List.getElem?_cons_succ, List.getElem?_cons_zero]; exact rfl) (by kernel_rfl) (by kernel_rfl) (fun _ _ _ h => h) (by kernel_rfl) (by kernel_rfl) (Or.inl ⟨by rfl, ?oy5e⟩) (by with_reducible exact HD.out.1) ?or5e
        case oy5e => (intro w hSw; obtain ⟨c0, c1, c2, c3, c4, c5, c6⟩ := hSw.cm; (try dsimp only at c0 c1 c2 c3 c4 c5 c6); go_simp; try with_reducible rfl)
        try simp only [Act.put, List.setIfInBounds_toArray, List.set_cons_zero, List.set_cons_succ]
        refine anyT_one (i := 3) (by kernel_rfl) (by simp only [List.getElem?_toArray, List.getElem?_cons_succ, List.getElem?_cons_zero]; exact rfl) (fun K hK => ?_)
        try go_simp
        refine (rbtext HD.out.2.1 ko HL.out (by have := HSZ.out; omega)).mono ?_
        rintro e w3e ⟨y3e, rfl, hy, hb⟩
        have HD := hide (show (fun w' => Row w' w.heap.size 29 (rowC ⟨4, c, q, ka, kb, ko, kv⟩)) w3e ∧ By b0 w3e y3e (((((zs ++ num7 4) ++ num7 c) ++ num7 q) ++ text7 ka) ++ text7 ko) ∧ Below w.heap.size w w3e from ⟨(fun hb h => Row.below h hb h.lt) hb HD.out.1, hy.mono (Nat.le_trans HBB.out HD.out.2.2.size), kept_trans HD.out.2.2 hb⟩)
        have HL := hide (show (((((zs ++ num7 4) ++ num7 c) ++ num7 q) ++ text7 ka) ++ text7 ko).length ≤ 140737488354000 from by rw [len_two, len_two, len_two, len_two, len_two, text7_len, text7_len]; have := HL0.out; have := (num7_len 4).2; have := (num7_len c).2; have := (num7_len q).2; have := (num7_len (ka.size : Int)).2; have := (num7_len (ko.size : Int)).2; have := (num7_len (kv.size : Int)).2; have := HSZ.out; omega)
        clear hy hb
        refine hK.out _ _ (fun _ => HD.out.1) ?_
        clear hK K
        try simp only [Act.put, List.setIfInBounds_toArray, List.set_cons_zero, List.set_cons_succ]
        refine anyT_one (i := 6) (by kernel_rfl) (by simp only [List.getElem?_toArray, List.getElem?_cons_succ, List.getElem?_cons_zero]; exact rfl) (fun K hK => ?_)
        try go_simp
        refine (rbtext HD.out.2.1 kv HL.out (by have := HSZ.out; omega)).mono ?_
        rintro e w6e ⟨y6e, rfl, hy, hb⟩
        have HD := hide (show (fun w' => Row w' w.heap.size 29 (rowC ⟨4, c, q, ka, kb, ko, kv⟩)) w6e ∧ By b0 w6e y6e ((((((zs ++ num7 4) ++ num7 c) ++ num7 q) ++ text7 ka) ++ text7 ko) ++ text7 kv) ∧ Below w.heap.size w w6e from ⟨(fun hb h => Row.below h hb h.lt) hb HD.out.1, hy.mono (Nat.le_trans HBB.out HD.out.2.2.size), kept_trans HD.out.2.2 hb⟩)
        have HL := hide (show ((((((zs ++ num7 4) ++ num7 c) ++ num7 q) ++ text7 ka) ++ text7 ko) ++ text7 kv).length ≤ 140737488354000 from by rw [len_two, len_two, len_two, len_two, len_two, len_two, text7_len, text7_len, text7_len]; have := HL0.out; have := (num7_len 4).2; have := (num7_len c).2; have := (num7_len q).2; have := (num7_len (ka.size : Int)).2; have := (num7_len (ko.size : Int)).2; have := (num7_len (kv.size : Int)).2; have := HSZ.out; omega)
        clear hy hb
        refine hK.out _ _ (fun _ => HD.out.1) ?_
        clear hK K
        try simp only [Act.put, List.setIfInBounds_toArray, List.set_cons_zero, List.set_cons_succ]
        refine anyT_one (i := 7) (by kernel_rfl) (by simp only [List.getElem?_toArray, List.getElem?_cons_succ, List.getElem?_cons_zero]; exact rfl) (fun K hK => ?_)
        try go_simp
        refine hK.out _ _ (fun e => absurd rfl e) ?_
        clear hK K
        refine anyT_done (by kernel_rfl) ?_
        refine NoPanic.normal ?_
        try simp only [Act.put]
        go_wp2
        go_ret
        refine ⟨_, rfl, ?_, HD.out.2.2⟩
        have e : (((((zs ++ num7 4) ++ num7 c) ++ num7 q) ++ text7 ka) ++ text7 ko) ++ text7 kv = zs ++ bytesC ⟨4, c, q, ka, kb, ko, kv⟩ := by unfold bytesC tailC; simp [List.append_assoc]
        rw [← e]
        exact HD.out.2.1
      · by_cases g5 : k = 5
        · subst g5
          have HT := hide (rbtext HD3.out.2.1 kb HL3.out (by have := HSZ.out; omega))
          go_wp2_with (go_at_call 58; (with_reducible refine HT.out.mono ?_); rintro e w4 ⟨u4, rfl, hy, hb⟩)
          go_ret
          refine ⟨_, rfl, ?_, kept_trans HD3.out.2.2 hb⟩
          have e : ((((zs ++ num7 5) ++ num7 c) ++ num7 q) ++ text7 ka) ++ text7 kb = zs ++ bytesC ⟨5, c, q, ka, kb, ko, kv⟩ := by unfold bytesC tailC; simp [List.append_assoc]
          rw [← e]
          exact hy.mono (Nat.le_trans HBB.out HD3.out.2.2.size)
        · go_wp2
          go_ret
          refine ⟨_, rfl, ?_, HD3.out.2.2⟩
          have e : (((zs ++ num7 k) ++ num7 c) ++ num7 q) ++ text7 ka = zs ++ bytesC ⟨k, c, q, ka, kb, ko, kv⟩ := by unfold bytesC tailC; simp [List.append_assoc, hk, g2, g4, g5]
          rw [← e]
          exact HD3.out.2.1
end Go.Proofs.Ytlnpfaoeockoiaa
/- The document's PutCell: a right cell's bytes behind any bytes. Conditions: the slice lies, lengths have room, the cell is right. -/
namespace Go.Proofs.Ytlnpfaoeockoiaa
set_option maxRecDepth 100000
open Go.RowKit
/-- A slice of bytes that lies, whosever it is. -/
def Sl (w : World) (v : Value) (zs : List Int) : Prop := ∃ A c, v = .slice A zs.length c ∧ Lies w A zs ∧ (A = none → c = 0)
theorem By.sl {b : Nat} {w : World} {v : Value} {zs : List Int} (h : By b w v zs) : Sl w v zs := by
  obtain ⟨A, c, e, hA, _, _, hl⟩ := h.form
  exact ⟨A, c, e, hl, hA⟩
theorem Sl.below {w w' : World} {v : Value} {zs : List Int} (h : Sl w v zs) (hb : Below w.heap.size w w') : Sl w' v zs := by
  obtain ⟨A, c, e, hl, hA⟩ := h
  exact ⟨A, c, e, hl.below hb, hA⟩
theorem rnum_sl {w : World} {v : Value} {zs : List Int} (h : Sl w v zs) (m : Int) (ln : zs.length ≤ 140737488354000) (hm : I64 m) : Calls Try.prog 43 #[v, .int .i64 m] w (MadeB w (zs ++ num7 m)) := by
  obtain ⟨A, c, rfl, hl, hA⟩ := h
  exact (rnum_any A _ c zs m w rfl hl hA (by omega) hm.1 hm.2).mono fun _ _ z => by_of (by rw [List.length_append]) z
set_option maxHeartbeats 8000000 in
theorem rputcell_any {v : Value} {zs : List Int} {w : World} (hv : Sl w v zs) (hl : zs.length ≤ 140737488353000) (x : Cl) (h8 : x.a.length = 8) (hr : rightCl x = true) :
    Calls Try.prog 14 #[v, .agg (clC x)] w (MadeB w (zs ++ encX x)) := by
  have ok := hide (rightCl_says hr)
  obtain ⟨a0, a1, a2, a3, a4, a5, a6, a7, ha⟩ := len8 h8
  have HA := hide (rightAl_says ok.out.a h8)
  obtain ⟨st, ⟨p1, p2⟩, ⟨v1, v2⟩, ⟨ck, cc, cq, ca, cb, co, cv⟩, a, s⟩ := x
  dsimp only at ha h8 ok HA
  subst ha
  have HL0 := hide hl
  have HB0 := hide ((Below.refl w.heap.size w).alloc (Nat.le_refl _) (.cells (clC ⟨st, (p1, p2), (v1, v2), ⟨ck, cc, cq, ca, cb, co, cv⟩, [a0, a1, a2, a3, a4, a5, a6, a7], s⟩) 35))
  have HV := hide (hv.below HB0.out)
  have CE := hide (CeAt.new (x := ⟨st, (p1, p2), (v1, v2), ⟨ck, cc, cq, ca, cb, co, cv⟩, [a0, a1, a2, a3, a4, a5, a6, a7], s⟩) h8 w 35)
  clear hv hl hr h8
  go_enter Try.func14, Try.ntmps14
  go_upto_region 1 with (fail)
  generalize w.alloc (.cells (clC _) 35) = w1 at CE HB0 HV ⊢
  refine wp_region_noPanic ?_
  refine wp_region_T 7 (fun w' => CeAt w' w.heap.size 35 ⟨st, (p1, p2), (v1, v2), ⟨ck, cc, cq, ca, cb, co, cv⟩, [a0, a1, a2, a3, a4, a5, a6, a7], s⟩) (by kernel_rfl) ?_
  have HD := hide (show (fun w' => CeAt w' w.heap.size 35 ⟨st, (p1, p2), (v1, v2), ⟨ck, cc, cq, ca, cb, co, cv⟩, [a0, a1, a2, a3, a4, a5, a6, a7], s⟩) w1.drew ∧ Sl w1.drew v zs ∧ Below w.heap.size w w1.drew from ⟨CE.out.drew, HV.out.below (Below.refl _ _).drew, HB0.out.drew⟩)
  generalize World.drew _ = wda at HD ⊢
  refine anyT_take (i := 0) (v := ?ov0a) (by simp only [List.getElem?_toArray, List.getElem?_cons_zero]; exact rfl) (by kernel_rfl) (by kernel_rfl) (fun _ _ _ h => h) (by kernel_rfl) (by kernel_rfl) (Or.inl ⟨by rfl, ?oy0a⟩) (by with_reducible exact HD.out.1) ?or0a
  case oy0a => (intro w hSw; skip; go_simp; try with_reducible rfl)
  try simp only [Act.put, List.setIfInBounds_toArray, List.set_cons_zero, List.set_cons_succ]
  refine anyT_take (i := 1) (v := ?ov1a) (by simp only [List.getElem?_toArray, List.getElem?_cons_succ, List.getElem?_cons_zero]; exact rfl) (by kernel_rfl) (by kernel_rfl) (fun _ _ _ h => h) (by kernel_rfl) (by kernel_rfl) (Or.inl ⟨by rfl, ?oy1a⟩) (by with_reducible exact HD.out.1) ?or1a
  case oy1a => (intro w hSw; skip; go_simp; try with_reducible rfl)
  try simp only [Act.put, List.setIfInBounds_toArray, List.set_cons_zero, List.set_cons_succ]
  refine anyT_take (i := 2) (v := ?ov2a) (by simp only [List.getElem?_toArray, List.getElem?_cons_succ, List.getElem?_cons_zero]; exact rfl) (by kernel_rfl) (by kernel_rfl) (fun _ _ _ h => h) (by kernel_rfl) (by kernel_rfl) (Or.inl ⟨by rfl, ?oy2a⟩) (by with_reducible exact HD.out.1) ?or2a
  case oy2a => (intro w hSw; obtain ⟨c0, c1, c2, c3, c4, c5, c6, c7, c8, c9, c10, c11, c12, c13, c14, c15, c16, c17, c18, c19, c20⟩ := hSw.cells rfl; (try dsimp only at c0 c1 c2 c3 c4 c5 c6 c7 c8 c9 c10 c11 c20); go_simp; try with_reducible rfl)
  try simp only [Act.put, List.setIfInBounds_toArray, List.set_cons_zero, List.set_cons_succ]
  refine anyT_take (i := 4) (v := ?ov4a) (by simp only [List.getElem?_toArray, List.getElem?_cons_succ, List.getElem?_cons_zero]; exact rfl) (by kernel_rfl) (by kernel_rfl) (fun _ _ _ h => h) (by kernel_rfl) (by kernel_rfl) (Or.inl ⟨by rfl, ?oy4a⟩) (by with_reducible exact HD.out.1) ?or4a
  case oy4a => (intro w hSw; skip; go_simp; try with_reducible rfl)
  try simp only [Act.put, List.setIfInBounds_toArray, List.set_cons_zero, List.set_cons_succ]
  refine anyT_take (i := 5) (v := ?ov5a) (by simp only [List.getElem?_toArray, List.getElem?_cons_succ, List.getElem?_cons_zero]; exact rfl) (by kernel_rfl) (by kernel_rfl) (fun _ _ _ h => h) (by kernel_rfl) (by kernel_rfl) (Or.inl ⟨by rfl, ?oy5a⟩) (by with_reducible exact HD.out.1) ?or5a
  case oy5a => (intro w hSw; obtain ⟨c0, c1, c2, c3, c4, c5, c6, c7, c8, c9, c10, c11, c12, c13, c14, c15, c16, c17, c18, c19, c20⟩ := hSw.cells rfl; (try dsimp only at c0 c1 c2 c3 c4 c5 c6 c7 c8 c9 c10 c11 c20); go_simp; try with_reducible rfl)
  try simp only [Act.put, List.setIfInBounds_toArray, List.set_cons_zero, List.set_cons_succ]
  refine anyT_one (i := 3) (by kernel_rfl) (by simp only [List.getElem?_toArray, List.getElem?_cons_succ, List.getElem?_cons_zero]; exact rfl) (fun K hK => ?_)
  try go_simp
  refine (rnum_sl HD.out.2.1 st (by have := HL0.out; omega) (small ok.out.st.1 (by have := ok.out.st; dsimp only at this; omega))).mono ?_
  rintro e w3a ⟨y3a, rfl, hy, hb⟩
  have HD := hide (show (fun w' => CeAt w' w.heap.size 35 ⟨st, (p1, p2), (v1, v2), ⟨ck, cc, cq, ca, cb, co, cv⟩, [a0, a1, a2, a3, a4, a5, a6, a7], s⟩) w3a ∧ By w.heap.size w3a y3a (zs ++ num7 st) ∧ Below w.heap.size w w3a from ⟨(fun hb h => CeAt.kept h hb) hb HD.out.1, hy.mono HD.out.2.2.size, kept_trans HD.out.2.2 hb⟩)
  have HL := hide (show (zs ++ num7 st).length ≤ 140737488354000 from by rw [len_two]; have := HL0.out; have := (num7_len st).2; have := encB_len (p1, p2); have := encB_len (v1, v2); have := packC_len ⟨ck, cc, cq, ca, cb, co, cv⟩; have := (encN_len [a0, a1, a2, a3, a4, a5, a6, a7]).2; have : ([a0, a1, a2, a3, a4, a5, a6, a7] : List Int).length = 8 := rfl; have : (flg7 s).length = 1 := rfl; omega)
  clear hy hb
  refine hK.out _ _ (fun _ => HD.out.1) ?_
  clear hK K
  try simp only [Act.put, List.setIfInBounds_toArray, List.set_cons_zero, List.set_cons_succ]
  refine anyT_one (i := 6) (by kernel_rfl) (by simp only [List.getElem?_toArray, List.getElem?_cons_succ, List.getElem?_cons_zero]; exact rfl) (fun K hK => ?_)
  try go_simp
  refine (rballot_by HD.out.2.1 (by have := HL0.out; have := (num7_len st).2; rw [len_two]; omega) (p1, p2) (small ok.out.p.1.1 ok.out.p.1.2) (small ok.out.p.2.1 (by have := ok.out.p; dsimp only at this; omega)) HD.out.2.2.size).mono ?_
  rintro e w6a ⟨y6a, rfl, hy, hb⟩
  have HD := hide (show (fun w' => CeAt w' w.heap.size 35 ⟨st, (p1, p2), (v1, v2), ⟨ck, cc, cq, ca, cb, co, cv⟩, [a0, a1, a2, a3, a4, a5, a6, a7], s⟩) w6a ∧ By w.heap.size w6a y6a ((zs ++ num7 st) ++ encB (p1, p2)) ∧ Below w.heap.size w w6a from ⟨(fun hb h => CeAt.kept h hb) hb HD.out.1, hy, kept_trans HD.out.2.2 hb⟩)
  have HL := hide (show ((zs ++ num7 st) ++ encB (p1, p2)).length ≤ 140737488354000 from by rw [len_two, len_two]; have := HL0.out; have := (num7_len st).2; have := encB_len (p1, p2); have := encB_len (v1, v2); have := packC_len ⟨ck, cc, cq, ca, cb, co, cv⟩; have := (encN_len [a0, a1, a2, a3, a4, a5, a6, a7]).2; have : ([a0, a1, a2, a3, a4, a5, a6, a7] : List Int).length = 8 := rfl; have : (flg7 s).length = 1 := rfl; omega)
  clear hy hb
  refine hK.out _ _ (fun _ => HD.out.1) ?_
  clear hK K
  try simp only [Act.put, List.setIfInBounds_toArray, List.set_cons_zero, List.set_cons_succ]
  refine anyT_one (i := 7) (by kernel_rfl) (by simp only [List.getElem?_toArray, List.getElem?_cons_succ, List.getElem?_cons_zero]; exact rfl) (fun K hK => ?_)
  try go_simp
  refine hK.out _ _ (fun e => absurd rfl e) ?_
  clear hK K
  refine anyT_done (by kernel_rfl) ?_
  refine NoPanic.normal ?_
  try simp only [Act.put]
  generalize w6a = w2, y6a = u2 at HD ⊢
  have HD2 := hide HD.out
  have HL2 := hide HL.out
  obtain ⟨c0, c1, c2, c3, c4, c5, c6, c7, c8, c9, c10, c11, c12, c13, c14, c15, c16, c17, c18, c19, c20⟩ := HD2.out.1.cells rfl
  dsimp only at c0
  clear c1 c2 c3 c4 c5 c6 c7 c8 c9 c10 c11 c12 c13 c14 c15 c16 c17 c18 c19 c20 HD HL
  by_cases h0 : st = 0
  · subst h0
    go_wp2
    go_ret
    refine ⟨_, rfl, ?_, HD2.out.2.2⟩
    have e : (zs ++ num7 0) ++ encB (p1, p2) = zs ++ encX ⟨0, (p1, p2), (v1, v2), ⟨ck, cc, cq, ca, cb, co, cv⟩, [a0, a1, a2, a3, a4, a5, a6, a7], s⟩ := by unfold encX encT; simp [List.append_assoc]
    rw [← e]
    exact HD2.out.2.1
  · go_upto_region 4 with (fail)
    clear c0
    refine wp_region_noPanic ?_
    refine wp_region_T 13 (fun w' => CeAt w' w.heap.size 35 ⟨st, (p1, p2), (v1, v2), ⟨ck, cc, cq, ca, cb, co, cv⟩, [a0, a1, a2, a3, a4, a5, a6, a7], s⟩) (by kernel_rfl) ?_
    have HD := hide (show (fun w' => CeAt w' w.heap.size 35 ⟨st, (p1, p2), (v1, v2), ⟨ck, cc, cq, ca, cb, co, cv⟩, [a0, a1, a2, a3, a4, a5, a6, a7], s⟩) w2.drew ∧ By w.heap.size w2.drew u2 ((zs ++ num7 st) ++ encB (p1, p2)) ∧ Below w.heap.size w w2.drew from ⟨HD2.out.1.drew, HD2.out.2.1.below (Below.refl _ _).drew, HD2.out.2.2.drew⟩)
    generalize World.drew _ = wdb at HD ⊢
    refine anyT_take (i := 0) (v := ?ov0b) (by simp only [List.getElem?_toArray, List.getElem?_cons_zero]; exact rfl) (by kernel_rfl) (by kernel_rfl) (fun _ _ _ h => h) (by kernel_rfl) (by kernel_rfl) (Or.inl ⟨by rfl, ?oy0b⟩) (by with_reducible exact HD.out.1) ?or0b
    case oy0b => (intro w hSw; skip; go_simp; try with_reducible rfl)
    try simp only [Act.put, List.setIfInBounds_toArray, List.set_cons_zero, List.set_cons_succ]
    refine anyT_take (i := 1) (v := ?ov1b) (by simp only [List.getElem?_toArray, List.getElem?_cons_succ, List.getElem?_cons_zero]; exact rfl) (by kernel_rfl) (by kernel_rfl) (fun _ _ _ h => h) (by kernel_rfl) (by kernel_rfl) (Or.inl ⟨by rfl, ?oy1b⟩) (by with_reducible exact HD.out.1) ?or1b
    case oy1b => (intro w hSw; skip; go_simp; try with_reducible rfl)
    try simp only [Act.put, List.setIfInBounds_toArray, List.set_cons_zero, List.set_cons_succ]
    refine anyT_take (i := 2) (v := ?ov2b) (by simp only [List.getElem?_toArray, List.getElem?_cons_succ, List.getElem?_cons_zero]; exact rfl) (by kernel_rfl) (by kernel_rfl) (fun _ _ _ h => h) (by kernel_rfl) (by kernel_rfl) (Or.inl ⟨by rfl, ?oy2b⟩) (by with_reducible exact HD.out.1) ?or2b
    case oy2b => (intro w hSw; obtain ⟨c0, c1, c2, c3, c4, c5, c6, c7, c8, c9, c10, c11, c12, c13, c14, c15, c16, c17, c18, c19, c20⟩ := hSw.cells rfl; (try dsimp only at c0 c1 c2 c3 c4 c5 c6 c7 c8 c9 c10 c11 c20); go_simp; try with_reducible rfl)
    try simp only [Act.put, List.setIfInBounds_toArray, List.set_cons_zero, List.set_cons_succ]
    refine anyT_take (i := 4) (v := ?ov4b) (by simp only [List.getElem?_toArray, List.getElem?_cons_succ, List.getElem?_cons_zero]; exact rfl) (by kernel_rfl) (by kernel_rfl) (fun _ _ _ h => h) (by kernel_rfl) (by kernel_rfl) (Or.inl ⟨by rfl, ?oy4b⟩) (by with_reducible exact HD.out.1) ?or4b
    case oy4b => (intro w hSw; skip; go_simp; try with_reducible rfl)
    try simp only [Act.put, List.setIfInBounds_toArray, List.set_cons_zero, List.set_cons_succ]
    refine anyT_take (i := 5) (v := ?ov5b) (by simp only [List.getElem?_toArray, List.getElem?_cons_succ, List.getElem?_cons_zero]; exact rfl) (by kernel_rfl) (by kernel_rfl) (fun _ _ _ h => h) (by kernel_rfl) (by kernel_rfl) (Or.inl ⟨by rfl, ?oy5b⟩) (by with_reducible exact HD.out.1) ?or5b
    case oy5b => (intro w hSw; obtain ⟨c0, c1, c2, c3, c4, c5, c6, c7, c8, c9, c10, c11, c12, c13, c14, c15, c16, c17, c18, c19, c20⟩ := hSw.cells rfl; (try dsimp only at c0 c1 c2 c3 c4 c5 c6 c7 c8 c9 c10 c11 c20); go_simp; try with_reducible rfl)
    try simp only [Act.put, List.setIfInBounds_toArray, List.set_cons_zero, List.set_cons_succ]
    refine anyT_take (i := 7) (v := ?ov7b) (by simp only [List.getElem?_toArray, List.getElem?_cons_succ, List.getElem?_cons_zero]; exact rfl) (by kernel_rfl) (by kernel_rfl) (fun _ _ _ h => h) (by kernel_rfl) (by kernel_rfl) (Or.inl ⟨by rfl, ?oy7b⟩) (by with_reducible exact HD.out.1) ?or7b
    case oy7b => (intro w hSw; skip; go_simp; try with_reducible rfl)
    try simp only [Act.put, List.setIfInBounds_toArray, List.set_cons_zero, List.set_cons_succ]
    refine anyT_take (i := 8) (v := ?ov8b) (by simp only [List.getElem?_toArray, List.getElem?_cons_succ, List.getElem?_cons_zero]; exact rfl) (by kernel_rfl) (by kernel_rfl) (fun _ _ _ h => h) (by kernel_rfl) (by kernel_rfl) (Or.inl ⟨by rfl, ?oy8b⟩) (by with_reducible exact HD.out.1) ?or8b
    case oy8b => (intro w hSw; obtain ⟨c0, c1, c2, c3, c4, c5, c6, c7, c8, c9, c10, c11, c12, c13, c14, c15, c16, c17, c18, c19, c20⟩ := hSw.cells rfl; (try dsimp only at c0 c1 c2 c3 c4 c5 c6 c7 c8 c9 c10 c11 c20); go_simp; try with_reducible rfl)
    try simp only [Act.put, List.setIfInBounds_toArray, List.set_cons_zero, List.set_cons_succ]
    refine anyT_take (i := 10) (v := ?ov10b) (by simp only [List.getElem?_toArray, List.getElem?_cons_succ, List.getElem?_cons_zero]; exact rfl) (by kernel_rfl) (by kernel_rfl) (fun _ _ _ h => h) (by kernel_rfl) (by kernel_rfl) (Or.inl ⟨by rfl, ?oy10b⟩) (by with_reducible exact HD.out.1) ?or10b
    case oy10b => (intro w hSw; skip; go_simp; try with_reducible rfl)
    try simp only [Act.put, List.setIfInBounds_toArray, List.set_cons_zero, List.set_cons_succ]
    refine anyT_take (i := 11) (v := ?ov11b) (by simp only [List.getElem?_toArray, List.getElem?_cons_succ, List.getElem?_cons_zero]; exact rfl) (by kernel_rfl) (by kernel_rfl) (fun _ _ _ h => h) (by kernel_rfl) (by kernel_rfl) (Or.inl ⟨by rfl, ?oy11b⟩) (by with_reducible exact HD.out.1) ?or11b
    case oy11b => (intro w hSw; obtain ⟨c0, c1, c2, c3, c4, c5, c6, c7, c8, c9, c10, c11, c12, c13, c14, c15, c16, c17, c18, c19, c20⟩ := hSw.cells rfl; (try dsimp only at c0 c1 c2 c3 c4 c5 c6 c7 c8 c9 c10 c11 c20); go_simp; try with_reducible rfl)
    try simp only [Act.put, List.setIfInBounds_toArray, List.set_cons_zero, List.set_cons_succ]
    refine anyT_one (i := 3) (by kernel_rfl) (by simp only [List.getElem?_toArray, List.getElem?_cons_succ, List.getElem?_cons_zero]; exact rfl) (fun K hK => ?_)
    try go_simp
    refine (rballot_by HD.out.2.1 (by rw [len_two, len_two]; have := HL0.out; have := (num7_len st).2; have := encB_len (p1, p2); have := encB_len (v1, v2); have := packC_len ⟨ck, cc, cq, ca, cb, co, cv⟩; have := (encN_len [a0, a1, a2, a3, a4, a5, a6, a7]).2; have : ([a0, a1, a2, a3, a4, a5, a6, a7] : List Int).length = 8 := rfl; have : (flg7 s).length = 1 := rfl; omega) (v1, v2) (small ok.out.v.1.1 ok.out.v.1.2) (small ok.out.v.2.1 (by have := ok.out.v; dsimp only at this; omega)) HD.out.2.2.size).mono ?_
    rintro e w3b ⟨y3b, rfl, hy, hb⟩
    have HD := hide (show (fun w' => CeAt w' w.heap.size 35 ⟨st, (p1, p2), (v1, v2), ⟨ck, cc, cq, ca, cb, co, cv⟩, [a0, a1, a2, a3, a4, a5, a6, a7], s⟩) w3b ∧ By w.heap.size w3b y3b (((zs ++ num7 st) ++ encB (p1, p2)) ++ encB (v1, v2)) ∧ Below w.heap.size w w3b from ⟨(fun hb h => CeAt.kept h hb) hb HD.out.1, hy, kept_trans HD.out.2.2 hb⟩)
    have HL := hide (show (((zs ++ num7 st) ++ encB (p1, p2)) ++ encB (v1, v2)).length ≤ 140737488354000 from by rw [len_two, len_two, len_two]; have := HL0.out; have := (num7_len st).2; have := encB_len (p1, p2); have := encB_len (v1, v2); have := packC_len ⟨ck, cc, cq, ca, cb, co, cv⟩; have := (encN_len [a0, a1, a2, a3, a4, a5, a6, a7]).2; have : ([a0, a1, a2, a3, a4, a5, a6, a7] : List Int).length = 8 := rfl; have : (flg7 s).length = 1 := rfl; omega)
    clear hy hb
    refine hK.out _ _ (fun _ => HD.out.1) ?_
    clear hK K
    try simp only [Act.put, List.setIfInBounds_toArray, List.set_cons_zero, List.set_cons_succ]
    refine anyT_one (i := 6) (by kernel_rfl) (by simp only [List.getElem?_toArray, List.getElem?_cons_succ, List.getElem?_cons_zero]; exact rfl) (fun K hK => ?_)
    try go_simp
    refine (rcommand_by HD.out.2.1 (by rw [len_two, len_two, len_two]; have := HL0.out; have := (num7_len st).2; have := encB_len (p1, p2); have := encB_len (v1, v2); have := packC_len ⟨ck, cc, cq, ca, cb, co, cv⟩; have := (encN_len [a0, a1, a2, a3, a4, a5, a6, a7]).2; have : ([a0, a1, a2, a3, a4, a5, a6, a7] : List Int).length = 8 := rfl; have : (flg7 s).length = 1 := rfl; omega) ⟨ck, cc, cq, ca, cb, co, cv⟩ ok.out.c HD.out.2.2.size).mono ?_
    rintro e w6b ⟨y6b, rfl, hy, hb⟩
    have HD := hide (show (fun w' => CeAt w' w.heap.size 35 ⟨st, (p1, p2), (v1, v2), ⟨ck, cc, cq, ca, cb, co, cv⟩, [a0, a1, a2, a3, a4, a5, a6, a7], s⟩) w6b ∧ By w.heap.size w6b y6b ((((zs ++ num7 st) ++ encB (p1, p2)) ++ encB (v1, v2)) ++ packC ⟨ck, cc, cq, ca, cb, co, cv⟩) ∧ Below w.heap.size w w6b from ⟨(fun hb h => CeAt.kept h hb) hb HD.out.1, hy, kept_trans HD.out.2.2 hb⟩)
    have HL := hide (show ((((zs ++ num7 st) ++ encB (p1, p2)) ++ encB (v1, v2)) ++ packC ⟨ck, cc, cq, ca, cb, co, cv⟩).length ≤ 140737488354000 from by rw [len_two, len_two, len_two, len_two]; have := HL0.out; have := (num7_len st).2; have := encB_len (p1, p2); have := encB_len (v1, v2); have := packC_len ⟨ck, cc, cq, ca, cb, co, cv⟩; have := (encN_len [a0, a1, a2, a3, a4, a5, a6, a7]).2; have : ([a0, a1, a2, a3, a4, a5, a6, a7] : List Int).length = 8 := rfl; have : (flg7 s).length = 1 := rfl; omega)
    clear hy hb
    refine hK.out _ _ (fun _ => HD.out.1) ?_
    clear hK K
    try simp only [Act.put, List.setIfInBounds_toArray, List.set_cons_zero, List.set_cons_succ]
    refine anyT_one (i := 9) (by kernel_rfl) (by simp only [List.getElem?_toArray, List.getElem?_cons_succ, List.getElem?_cons_zero]; exact rfl) (fun K hK => ?_)
    try go_simp
    refine (rattr_by (a := [a0, a1, a2, a3, a4, a5, a6, a7]) HD.out.2.1 (by rw [len_two, len_two, len_two, len_two]; have := HL0.out; have := (num7_len st).2; have := encB_len (p1, p2); have := encB_len (v1, v2); have := packC_len ⟨ck, cc, cq, ca, cb, co, cv⟩; have := (encN_len [a0, a1, a2, a3, a4, a5, a6, a7]).2; have : ([a0, a1, a2, a3, a4, a5, a6, a7] : List Int).length = 8 := rfl; have : (flg7 s).length = 1 := rfl; omega) rfl HA.out HD.out.2.2.size).mono ?_
    rintro e w9b ⟨y9b, rfl, hy, hb⟩
    have HD := hide (show (fun w' => CeAt w' w.heap.size 35 ⟨st, (p1, p2), (v1, v2), ⟨ck, cc, cq, ca, cb, co, cv⟩, [a0, a1, a2, a3, a4, a5, a6, a7], s⟩) w9b ∧ By w.heap.size w9b y9b (((((zs ++ num7 st) ++ encB (p1, p2)) ++ encB (v1, v2)) ++ packC ⟨ck, cc, cq, ca, cb, co, cv⟩) ++ encN [a0, a1, a2, a3, a4, a5, a6, a7]) ∧ Below w.heap.size w w9b from ⟨(fun hb h => CeAt.kept h hb) hb HD.out.1, hy, kept_trans HD.out.2.2 hb⟩)
    have HL := hide (show (((((zs ++ num7 st) ++ encB (p1, p2)) ++ encB (v1, v2)) ++ packC ⟨ck, cc, cq, ca, cb, co, cv⟩) ++ encN [a0, a1, a2, a3, a4, a5, a6, a7]).length ≤ 140737488354000 from by rw [len_two, len_two, len_two, len_two, len_two]; have := HL0.out; have := (num7_len st).2; have := encB_len (p1, p2); have := encB_len (v1, v2); have := packC_len ⟨ck, cc, cq, ca, cb, co, cv⟩; have := (encN_len [a0, a1, a2, a3, a4, a5, a6, a7]).2; have : ([a0, a1, a2, a3, a4, a5, a6, a7] : List Int).length = 8 := rfl; have : (flg7 s).length = 1 := rfl; omega)
    clear hy hb
    refine hK.out _ _ (fun _ => HD.out.1) ?_
    clear hK K
    try simp only [Act.put, List.setIfInBounds_toArray, List.set_cons_zero, List.set_cons_succ]
    refine anyT_one (i := 12) (by kernel_rfl) (by simp only [List.getElem?_toArray, List.getElem?_cons_succ, List.getElem?_cons_zero]; exact rfl) (fun K hK => ?_)
    try go_simp
    refine (rbflag HD.out.2.1 s HL.out).mono ?_
    rintro e w12b ⟨y12b, rfl, hy, hb⟩
    have HD := hide (show (fun w' => CeAt w' w.heap.size 35 ⟨st, (p1, p2), (v1, v2), ⟨ck, cc, cq, ca, cb, co, cv⟩, [a0, a1, a2, a3, a4, a5, a6, a7], s⟩) w12b ∧ By w.heap.size w12b y12b ((((((zs ++ num7 st) ++ encB (p1, p2)) ++ encB (v1, v2)) ++ packC ⟨ck, cc, cq, ca, cb, co, cv⟩) ++ encN [a0, a1, a2, a3, a4, a5, a6, a7]) ++ flg7 s) ∧ Below w.heap.size w w12b from ⟨(fun hb h => CeAt.kept h hb) hb HD.out.1, hy.mono HD.out.2.2.size, kept_trans HD.out.2.2 hb⟩)
    have HL := hide (show ((((((zs ++ num7 st) ++ encB (p1, p2)) ++ encB (v1, v2)) ++ packC ⟨ck, cc, cq, ca, cb, co, cv⟩) ++ encN [a0, a1, a2, a3, a4, a5, a6, a7]) ++ flg7 s).length ≤ 140737488354000 from by rw [len_two, len_two, len_two, len_two, len_two, len_two]; have := HL0.out; have := (num7_len st).2; have := encB_len (p1, p2); have := encB_len (v1, v2); have := packC_len ⟨ck, cc, cq, ca, cb, co, cv⟩; have := (encN_len [a0, a1, a2, a3, a4, a5, a6, a7]).2; have : ([a0, a1, a2, a3, a4, a5, a6, a7] : List Int).length = 8 := rfl; have : (flg7 s).length = 1 := rfl; omega)
    clear hy hb
    refine hK.out _ _ (fun _ => HD.out.1) ?_
    clear hK K
    try simp only [Act.put, List.setIfInBounds_toArray, List.set_cons_zero, List.set_cons_succ]
    refine anyT_one (i := 13) (by kernel_rfl) (by simp only [List.getElem?_toArray, List.getElem?_cons_succ, List.getElem?_cons_zero]; exact rfl) (fun K hK => ?_)
    try go_simp
    refine hK.out _ _ (fun e => absurd rfl e) ?_
    clear hK K
    refine anyT_done (by kernel_rfl) ?_
    refine NoPanic.normal ?_
    try simp only [Act.put]
    go_wp2
    go_ret
    refine ⟨_, rfl, ?_, HD.out.2.2⟩
    have e : (((((zs ++ num7 st) ++ encB (p1, p2)) ++ encB (v1, v2)) ++ packC ⟨ck, cc, cq, ca, cb, co, cv⟩) ++ encN [a0, a1, a2, a3, a4, a5, a6, a7]) ++ flg7 s = zs ++ encX ⟨st, (p1, p2), (v1, v2), ⟨ck, cc, cq, ca, cb, co, cv⟩, [a0, a1, a2, a3, a4, a5, a6, a7], s⟩ := by unfold encX encT; simp [List.append_assoc, h0]
    rw [← e]
    exact HD.out.2.1
end Go.Proofs.Ytlnpfaoeockoiaa
/- What read and Get of package cmd come to. Conditions: the reader lies in memory as it must. -/
namespace Go.Proofs.Ytlnpfaoeockoiaa
set_option maxRecDepth 100000
open Go.RowKit
/-- A command was read. -/
def ReadTo (t : TypeId) (w : World) (B g : Nat) (zs : List Int) (r : Cm × Nat × Int) (y : Ending) (w' : World) : Prop :=
  y = .returned (valC r.1) ∧ Rdr t w' B g zs r.2.1 r.2.2 ∧ w.grownBy w' (some g)
theorem c_grown_alloc {a b : World} {row : Option Nat} (h : a.grownBy b row) (o : Obj) : a.grownBy (b.alloc o) row :=
  ⟨h.os, h.tape, h.output, by have := h.size; simp; omega, fun k hk hr => (Below.heap_alloc b o k (by have := h.size; omega)).trans (h.block k hk hr)⟩
theorem Rz.start {t : TypeId} {W w1 : World} {B g i' : Nat} {zs : List Int} {e' : Int} (x : Cm) (hr : Rdr t w1 B g zs i' e') (hg : (W.alloc (.cells (rowC zeroC) 29)).grownBy w1 (some g)) (hlt : g < W.heap.size) :
    Rz t W (w1.alloc (.cells (rowC x) 29)) B g zs i' e' W.heap.size w1.heap.size x :=
  have hs : W.heap.size + 1 ≤ w1.heap.size := by have := hg.size; simpa using this
  have hl : Row (W.alloc (.cells (rowC zeroC) 29)) W.heap.size 29 (rowC zeroC) := Row.new W 29 (rowC zeroC)
  ⟨hr.alloc _, (hl.far hg (by omega)).below ((Below.refl w1.heap.size w1).alloc (Nat.le_refl _) _) (by omega), Row.new w1 _ _,
    c_grown_alloc (grown_trans (c_grown_alloc (grown_refl W _) _) hg) _, Nat.le_refl _, hlt, by omega⟩
/-- The answer out of its block. -/
theorem results_row {fn : Func} {tmps : Array Value} {w : World} {a h : Nat} {t : TypeId} {x : Cm} (hf : fn.results = #[.cell a 29]) (ht : tmps[a]? = some (.pointer (some ⟨h, 0, none⟩))) (hr : Row w h t (rowC x)) :
    (results fn tmps).run Try.prog w = .ok (valC x) w := by
  obtain ⟨c0, c1, c2, c3, c4, c5, c6⟩ := hr.cells7
  simp [results, hf, ht, go_sem, valC, c0, c1, c2, c3, c4, c5, c6]
theorem seven_put {a b c d e f g u0 u1 u2 u3 u4 u5 u6 : Value} : (((((((#[a, b, c, d, e, f, g] : Array Value).setIfInBounds 0 u0).setIfInBounds 1 u1).setIfInBounds 2 u2).setIfInBounds 3 u3).setIfInBounds 4 u4).setIfInBounds 5 u5).setIfInBounds 6 u6 = #[u0, u1, u2, u3, u4, u5, u6] := by
  simp
/-- All seven cells are written. -/
theorem Row.seven {w : World} {h : Nat} {t : TypeId} {x : Cm} (r : Row w h t (rowC x)) (u0 u1 u2 u3 u4 u5 u6 : Value) :
    Row (((((((w.setCell ⟨h, 0, none⟩ u0).setCell ⟨h, 1, none⟩ u1).setCell ⟨h, 2, none⟩ u2).setCell ⟨h, 3, none⟩ u3).setCell ⟨h, 4, none⟩ u4).setCell ⟨h, 5, none⟩ u5).setCell ⟨h, 6, none⟩ u6) h t #[u0, u1, u2, u3, u4, u5, u6] := by
  have z := ((((((r.put 0 u0).put 1 u1).put 2 u2).put 3 u3).put 4 u4).put 5 u5).put 6 u6
  unfold rowC at z
  rw [seven_put] at z
  exact z
theorem Rz.done {t : TypeId} {W w : World} {B g i h2 h : Nat} {zs : List Int} {e : Int} {x x' : Cm} (s : Rz t W w B g zs i e h2 h x) (u0 u1 u2 u3 u4 u5 u6 : Value) :
    ReadTo t W B g zs (x', i, e) (.returned (valC x')) (((((((w.setCell ⟨h2, 0, none⟩ u0).setCell ⟨h2, 1, none⟩ u1).setCell ⟨h2, 2, none⟩ u2).setCell ⟨h2, 3, none⟩ u3).setCell ⟨h2, 4, none⟩ u4).setCell ⟨h2, 5, none⟩ u5).setCell ⟨h2, 6, none⟩ u6) :=
  have K := (((((((s.kp.put 0 u0).put 1 u1).put 2 u2).put 3 u3).put 4 u4).put 5 u5).put 6 u6)
  ⟨rfl, K.r, K.old⟩
set_option maxRecDepth 100000 in
set_option maxHeartbeats 8000000 in
theorem read_any {w : World} {B g i : Nat} {zs : List Int} {e : Int} (h : Rdr 99 w B g zs i e) :
    Calls Try.prog 93 #[.pointer (some ⟨g, 0, none⟩)] w (ReadTo 99 w B g zs (readC zs i e)) := by
  have hlt := h.lt
  have h0 := h.alloc (.cells #[.int .i64 0, .int .i64 0, .int .i64 0, .string ⟨#[]⟩, .string ⟨#[]⟩, .string ⟨#[]⟩, .string ⟨#[]⟩] 29)
  have H0 := hide (pnum_any h0)
  clear h0
  obtain ⟨k, hk⟩ : ∃ x, rNumV zs i e = x := ⟨_, rfl⟩
  obtain ⟨i1, hi1⟩ : ∃ x, rNumA zs i e = x := ⟨_, rfl⟩
  obtain ⟨e1, he1⟩ : ∃ x, rNumE zs i e = x := ⟨_, rfl⟩
  rw [hk, hi1, he1] at H0
  by_cases k0 : k = 0
  · subst k0
    rw [readC_none hk hi1 he1]
    clear hk hi1 he1
    go_enter Try.func93, Try.ntmps93
    go_upto_region 2 with (go_at_call 36; (with_reducible refine H0.out.mono ?_); rintro y w1 ⟨rfl, hr1, hg1⟩)
    have R1 := hide (show Rz 99 w (w1.alloc (.cells #[.int .i64 0, .int .i64 0, .int .i64 0, .string ⟨#[]⟩, .string ⟨#[]⟩, .string ⟨#[]⟩, .string ⟨#[]⟩] 29)) B g zs i1 e1 w.heap.size w1.heap.size zeroC from Rz.start zeroC hr1 hg1 hlt)
    clear hr1 hg1
    generalize w1.heap.size = h at *
    generalize w1.alloc (.cells #[.int .i64 0, .int .i64 0, .int .i64 0, .string ⟨#[]⟩, .string ⟨#[]⟩, .string ⟨#[]⟩, .string ⟨#[]⟩] 29) = w2 at *
    obtain ⟨q0, q1, q2, q3, q4, q5, q6⟩ := R1.out.c.cells7
    obtain ⟨p0, p1, p2, p3, p4, p5, p6⟩ := R1.out.res.cells7
    obtain ⟨g0, g1, g2, g3, g4, g5, g6⟩ := R1.out.res.free7
    simp only [zeroC] at q0 q1 q2 q3 q4 q5 q6
    go_wp2
    exact bodyPost_ret (results_row (x := zeroC) Try.results93 rfl (R1.out.res.seven _ _ _ _ _ _ _)) rfl (R1.out.done _ _ _ _ _ _ _)
  · obtain ⟨c, h3⟩ : ∃ x, rNumV zs i1 e1 = x := ⟨_, rfl⟩
    obtain ⟨i2, h4⟩ : ∃ x, rNumA zs i1 e1 = x := ⟨_, rfl⟩
    obtain ⟨e2, h5⟩ : ∃ x, rNumE zs i1 e1 = x := ⟨_, rfl⟩
    obtain ⟨q, h6⟩ : ∃ x, rNumV zs i2 e2 = x := ⟨_, rfl⟩
    obtain ⟨i3, h7⟩ : ∃ x, rNumA zs i2 e2 = x := ⟨_, rfl⟩
    obtain ⟨e3, h8⟩ : ∃ x, rNumE zs i2 e2 = x := ⟨_, rfl⟩
    obtain ⟨a, h9⟩ : ∃ x, rTxtV zs i3 e3 16 = x := ⟨_, rfl⟩
    obtain ⟨i4, h10⟩ : ∃ x, rTxtA zs i3 e3 16 = x := ⟨_, rfl⟩
    obtain ⟨e4, h11⟩ : ∃ x, rTxtE zs i3 e3 16 = x := ⟨_, rfl⟩
    rw [readC_some k0 hk hi1 he1 h3 h4 h5 h6 h7 h8 h9 h10 h11]
    have t0 : (k == 0) = false := by rw [beq_eq_false_iff_ne]; exact k0
    clear hk hi1 he1 h
    -- by get-gen.py
    obtain rfl | rfl | rfl | ⟨n2, n4, n5⟩ : k = 2 ∨ k = 4 ∨ k = 5 ∨ (k ≠ 2 ∧ k ≠ 4 ∧ k ≠ 5) := by omega
    · rw [if_pos rfl]
      obtain ⟨b, h12⟩ : ∃ x, rTxtV zs i4 e4 64 = x := ⟨_, rfl⟩
      obtain ⟨i5, h13⟩ : ∃ x, rTxtA zs i4 e4 64 = x := ⟨_, rfl⟩
      obtain ⟨e5, h14⟩ : ∃ x, rTxtE zs i4 e4 64 = x := ⟨_, rfl⟩
      rw [h12, h13, h14]
      have H3 := hide h3
      have H4 := hide h4
      have H5 := hide h5
      have H6 := hide h6
      have H7 := hide h7
      have H8 := hide h8
      have H9 := hide h9
      have H10 := hide h10
      have H11 := hide h11
      have H12 := hide h12
      have H13 := hide h13
      have H14 := hide h14
      clear h3 h4 h5 h6 h7 h8 h9 h10 h11 h12 h13 h14
      go_enter Try.func93, Try.ntmps93
      go_upto_region 2 with (go_at_call 36; (with_reducible refine H0.out.mono ?_); rintro y w1 ⟨rfl, hr1, hg1⟩)
      have R1 := hide (show Rz 99 w (w1.alloc (.cells #[.int .i64 2, .int .i64 0, .int .i64 0, .string ⟨#[]⟩, .string ⟨#[]⟩, .string ⟨#[]⟩, .string ⟨#[]⟩] 29)) B g zs i1 e1 w.heap.size w1.heap.size ⟨2, 0, 0, noT, noT, noT, noT⟩ from Rz.start ⟨2, 0, 0, noT, noT, noT, noT⟩ hr1 hg1 hlt)
      clear hr1 hg1
      generalize w1.heap.size = h at *
      generalize w1.alloc (.cells #[.int .i64 2, .int .i64 0, .int .i64 0, .string ⟨#[]⟩, .string ⟨#[]⟩, .string ⟨#[]⟩, .string ⟨#[]⟩] 29) = w2 at *
      obtain ⟨q0, q1, q2, q3, q4, q5, q6⟩ := R1.out.c.cells7
      obtain ⟨f0, f1, f2, f3, f4, f5, f6⟩ := R1.out.c.free7
      simp only at q0 q1 q2 q3 q4 q5 q6
      go_upto_region 15 with (first
        | (go_at_call 36; (with_reducible refine (Rz.num R1.out H3.out H4.out H5.out).mono ?_); rintro y w3 ⟨rfl, ⟨q0, q1, q2, q3, q4, q5, q6⟩, ⟨f0, f1, f2, f3, f4, f5, f6⟩, R⟩; simp only at q0 q1 q2 q3 q4 q5 q6; have R2 := hide (show Rz 99 w (w3.setCell ⟨h, 1, none⟩ (.int .i64 c)) B g zs i2 e2 w.heap.size h ⟨2, c, 0, noT, noT, noT, noT⟩ from R.put 1 _ rfl); clear R)
        | (go_at_call 36; (with_reducible refine (Rz.num R2.out H6.out H7.out H8.out).mono ?_); rintro y w4 ⟨rfl, ⟨q0, q1, q2, q3, q4, q5, q6⟩, ⟨f0, f1, f2, f3, f4, f5, f6⟩, R⟩; simp only at q0 q1 q2 q3 q4 q5 q6; have R3 := hide (show Rz 99 w (w4.setCell ⟨h, 2, none⟩ (.int .i64 q)) B g zs i3 e3 w.heap.size h ⟨2, c, q, noT, noT, noT, noT⟩ from R.put 2 _ rfl); clear R)
        | (go_at_call 80; (with_reducible refine (Rz.text R3.out 16 H9.out H10.out H11.out).mono ?_); rintro y w5 ⟨rfl, ⟨q0, q1, q2, q3, q4, q5, q6⟩, ⟨f0, f1, f2, f3, f4, f5, f6⟩, R⟩; simp only at q0 q1 q2 q3 q4 q5 q6; have R4 := hide (show Rz 99 w (w5.setCell ⟨h, 3, none⟩ (.string (strOf a))) B g zs i4 e4 w.heap.size h ⟨2, c, q, (strOf a), noT, noT, noT⟩ from R.put 3 _ rfl); clear R)
        | (go_at_call 80; (with_reducible refine (Rz.text R4.out 64 H12.out H13.out H14.out).mono ?_); rintro y w6 ⟨rfl, ⟨q0, q1, q2, q3, q4, q5, q6⟩, ⟨f0, f1, f2, f3, f4, f5, f6⟩, R⟩; simp only at q0 q1 q2 q3 q4 q5 q6; have R5 := hide (show Rz 99 w (w6.setCell ⟨h, 6, none⟩ (.string (strOf b))) B g zs i5 e5 w.heap.size h ⟨2, c, q, (strOf a), noT, noT, (strOf b)⟩ from R.put 6 _ rfl); clear R))
      generalize (w6.setCell ⟨h, 6, none⟩ (.string (strOf b))) = w9 at *
      obtain ⟨r0, r1, r2, r3, r4, r5, r6⟩ := R5.out.c.cells7
      obtain ⟨p0, p1, p2, p3, p4, p5, p6⟩ := R5.out.res.cells7
      obtain ⟨g0, g1, g2, g3, g4, g5, g6⟩ := R5.out.res.free7
      simp only at r0 r1 r2 r3 r4 r5 r6
      go_wp2
      exact bodyPost_ret (results_row (x := ⟨2, c, q, (strOf a), noT, noT, (strOf b)⟩) Try.results93 rfl (R5.out.res.seven _ _ _ _ _ _ _)) rfl (R5.out.done _ _ _ _ _ _ _)
    · rw [if_neg (by decide), if_pos rfl]
      obtain ⟨b, h12⟩ : ∃ x, rTxtV zs i4 e4 64 = x := ⟨_, rfl⟩
      obtain ⟨i5, h13⟩ : ∃ x, rTxtA zs i4 e4 64 = x := ⟨_, rfl⟩
      obtain ⟨e5, h14⟩ : ∃ x, rTxtE zs i4 e4 64 = x := ⟨_, rfl⟩
      rw [h12, h13, h14]
      obtain ⟨d, h15⟩ : ∃ x, rTxtV zs i5 e5 64 = x := ⟨_, rfl⟩
      obtain ⟨i6, h16⟩ : ∃ x, rTxtA zs i5 e5 64 = x := ⟨_, rfl⟩
      obtain ⟨e6, h17⟩ : ∃ x, rTxtE zs i5 e5 64 = x := ⟨_, rfl⟩
      rw [h15, h16, h17]
      have H3 := hide h3
      have H4 := hide h4
      have H5 := hide h5
      have H6 := hide h6
      have H7 := hide h7
      have H8 := hide h8
      have H9 := hide h9
      have H10 := hide h10
      have H11 := hide h11
      have H12 := hide h12
      have H13 := hide h13
      have H14 := hide h14
      have H15 := hide h15
      have H16 := hide h16
      have H17 := hide h17
      clear h3 h4 h5 h6 h7 h8 h9 h10 h11 h12 h13 h14 h15 h16 h17
      go_enter Try.func93, Try.ntmps93
      go_upto_region 2 with (go_at_call 36; (with_reducible refine H0.out.mono ?_); rintro y w1 ⟨rfl, hr1, hg1⟩)
      have R1 := hide (show Rz 99 w (w1.alloc (.cells #[.int .i64 4, .int .i64 0, .int .i64 0, .string ⟨#[]⟩, .string ⟨#[]⟩, .string ⟨#[]⟩, .string ⟨#[]⟩] 29)) B g zs i1 e1 w.heap.size w1.heap.size ⟨4, 0, 0, noT, noT, noT, noT⟩ from Rz.start ⟨4, 0, 0, noT, noT, noT, noT⟩ hr1 hg1 hlt)
      clear hr1 hg1
      generalize w1.heap.size = h at *
      generalize w1.alloc (.cells #[.int .i64 4, .int .i64 0, .int .i64 0, .string ⟨#[]⟩, .string ⟨#[]⟩, .string ⟨#[]⟩, .string ⟨#[]⟩] 29) = w2 at *
      obtain ⟨q0, q1, q2, q3, q4, q5, q6⟩ := R1.out.c.cells7
      obtain ⟨f0, f1, f2, f3, f4, f5, f6⟩ := R1.out.c.free7
      simp only at q0 q1 q2 q3 q4 q5 q6
      go_upto_region 15 with (first
        | (go_at_call 36; (with_reducible refine (Rz.num R1.out H3.out H4.out H5.out).mono ?_); rintro y w3 ⟨rfl, ⟨q0, q1, q2, q3, q4, q5, q6⟩, ⟨f0, f1, f2, f3, f4, f5, f6⟩, R⟩; simp only at q0 q1 q2 q3 q4 q5 q6; have R2 := hide (show Rz 99 w (w3.setCell ⟨h, 1, none⟩ (.int .i64 c)) B g zs i2 e2 w.heap.size h ⟨4, c, 0, noT, noT, noT, noT⟩ from R.put 1 _ rfl); clear R)
        | (go_at_call 36; (with_reducible refine (Rz.num R2.out H6.out H7.out H8.out).mono ?_); rintro y w4 ⟨rfl, ⟨q0, q1, q2, q3, q4, q5, q6⟩, ⟨f0, f1, f2, f3, f4, f5, f6⟩, R⟩; simp only at q0 q1 q2 q3 q4 q5 q6; have R3 := hide (show Rz 99 w (w4.setCell ⟨h, 2, none⟩ (.int .i64 q)) B g zs i3 e3 w.heap.size h ⟨4, c, q, noT, noT, noT, noT⟩ from R.put 2 _ rfl); clear R)
        | (go_at_call 80; (with_reducible refine (Rz.text R3.out 16 H9.out H10.out H11.out).mono ?_); rintro y w5 ⟨rfl, ⟨q0, q1, q2, q3, q4, q5, q6⟩, ⟨f0, f1, f2, f3, f4, f5, f6⟩, R⟩; simp only at q0 q1 q2 q3 q4 q5 q6; have R4 := hide (show Rz 99 w (w5.setCell ⟨h, 3, none⟩ (.string (strOf a))) B g zs i4 e4 w.heap.size h ⟨4, c, q, (strOf a), noT, noT, noT⟩ from R.put 3 _ rfl); clear R)
        | (go_at_call 80; (with_reducible refine (Rz.text R4.out 64 H12.out H13.out H14.out).mono ?_); rintro y w6 ⟨rfl, ⟨q0, q1, q2, q3, q4, q5, q6⟩, ⟨f0, f1, f2, f3, f4, f5, f6⟩, R⟩; simp only at q0 q1 q2 q3 q4 q5 q6; have R5 := hide (show Rz 99 w (w6.setCell ⟨h, 5, none⟩ (.string (strOf b))) B g zs i5 e5 w.heap.size h ⟨4, c, q, (strOf a), noT, (strOf b), noT⟩ from R.put 5 _ rfl); clear R)
        | (go_at_call 80; (with_reducible refine (Rz.text R5.out 64 H15.out H16.out H17.out).mono ?_); rintro y w7 ⟨rfl, ⟨q0, q1, q2, q3, q4, q5, q6⟩, ⟨f0, f1, f2, f3, f4, f5, f6⟩, R⟩; simp only at q0 q1 q2 q3 q4 q5 q6; have R6 := hide (show Rz 99 w (w7.setCell ⟨h, 6, none⟩ (.string (strOf d))) B g zs i6 e6 w.heap.size h ⟨4, c, q, (strOf a), noT, (strOf b), (strOf d)⟩ from R.put 6 _ rfl); clear R))
      generalize (w7.setCell ⟨h, 6, none⟩ (.string (strOf d))) = w9 at *
      obtain ⟨r0, r1, r2, r3, r4, r5, r6⟩ := R6.out.c.cells7
      obtain ⟨p0, p1, p2, p3, p4, p5, p6⟩ := R6.out.res.cells7
      obtain ⟨g0, g1, g2, g3, g4, g5, g6⟩ := R6.out.res.free7
      simp only at r0 r1 r2 r3 r4 r5 r6
      go_wp2
      exact bodyPost_ret (results_row (x := ⟨4, c, q, (strOf a), noT, (strOf b), (strOf d)⟩) Try.results93 rfl (R6.out.res.seven _ _ _ _ _ _ _)) rfl (R6.out.done _ _ _ _ _ _ _)
    · rw [if_neg (by decide), if_neg (by decide), if_pos rfl]
      obtain ⟨b, h12⟩ : ∃ x, rTxtV zs i4 e4 16 = x := ⟨_, rfl⟩
      obtain ⟨i5, h13⟩ : ∃ x, rTxtA zs i4 e4 16 = x := ⟨_, rfl⟩
      obtain ⟨e5, h14⟩ : ∃ x, rTxtE zs i4 e4 16 = x := ⟨_, rfl⟩
      rw [h12, h13, h14]
      have H3 := hide h3
      have H4 := hide h4
      have H5 := hide h5
      have H6 := hide h6
      have H7 := hide h7
      have H8 := hide h8
      have H9 := hide h9
      have H10 := hide h10
      have H11 := hide h11
      have H12 := hide h12
      have H13 := hide h13
      have H14 := hide h14
      clear h3 h4 h5 h6 h7 h8 h9 h10 h11 h12 h13 h14
      go_enter Try.func93, Try.ntmps93
      go_upto_region 2 with (go_at_call 36; (with_reducible refine H0.out.mono ?_); rintro y w1 ⟨rfl, hr1, hg1⟩)
      have R1 := hide (show Rz 99 w (w1.alloc (.cells #[.int .i64 5, .int .i64 0, .int .i64 0, .string ⟨#[]⟩, .string ⟨#[]⟩, .string ⟨#[]⟩, .string ⟨#[]⟩] 29)) B g zs i1 e1 w.heap.size w1.heap.size ⟨5, 0, 0, noT, noT, noT, noT⟩ from Rz.start ⟨5, 0, 0, noT, noT, noT, noT⟩ hr1 hg1 hlt)
      clear hr1 hg1
      generalize w1.heap.size = h at *
      generalize w1.alloc (.cells #[.int .i64 5, .int .i64 0, .int .i64 0, .string ⟨#[]⟩, .string ⟨#[]⟩, .string ⟨#[]⟩, .string ⟨#[]⟩] 29) = w2 at *
      obtain ⟨q0, q1, q2, q3, q4, q5, q6⟩ := R1.out.c.cells7
      obtain ⟨f0, f1, f2, f3, f4, f5, f6⟩ := R1.out.c.free7
      simp only at q0 q1 q2 q3 q4 q5 q6
      go_upto_region 15 with (first
        | (go_at_call 36; (with_reducible refine (Rz.num R1.out H3.out H4.out H5.out).mono ?_); rintro y w3 ⟨rfl, ⟨q0, q1, q2, q3, q4, q5, q6⟩, ⟨f0, f1, f2, f3, f4, f5, f6⟩, R⟩; simp only at q0 q1 q2 q3 q4 q5 q6; have R2 := hide (show Rz 99 w (w3.setCell ⟨h, 1, none⟩ (.int .i64 c)) B g zs i2 e2 w.heap.size h ⟨5, c, 0, noT, noT, noT, noT⟩ from R.put 1 _ rfl); clear R)
        | (go_at_call 36; (with_reducible refine (Rz.num R2.out H6.out H7.out H8.out).mono ?_); rintro y w4 ⟨rfl, ⟨q0, q1, q2, q3, q4, q5, q6⟩, ⟨f0, f1, f2, f3, f4, f5, f6⟩, R⟩; simp only at q0 q1 q2 q3 q4 q5 q6; have R3 := hide (show Rz 99 w (w4.setCell ⟨h, 2, none⟩ (.int .i64 q)) B g zs i3 e3 w.heap.size h ⟨5, c, q, noT, noT, noT, noT⟩ from R.put 2 _ rfl); clear R)
        | (go_at_call 80; (with_reducible refine (Rz.text R3.out 16 H9.out H10.out H11.out).mono ?_); rintro y w5 ⟨rfl, ⟨q0, q1, q2, q3, q4, q5, q6⟩, ⟨f0, f1, f2, f3, f4, f5, f6⟩, R⟩; simp only at q0 q1 q2 q3 q4 q5 q6; have R4 := hide (show Rz 99 w (w5.setCell ⟨h, 3, none⟩ (.string (strOf a))) B g zs i4 e4 w.heap.size h ⟨5, c, q, (strOf a), noT, noT, noT⟩ from R.put 3 _ rfl); clear R)
        | (go_at_call 80; (with_reducible refine (Rz.text R4.out 16 H12.out H13.out H14.out).mono ?_); rintro y w6 ⟨rfl, ⟨q0, q1, q2, q3, q4, q5, q6⟩, ⟨f0, f1, f2, f3, f4, f5, f6⟩, R⟩; simp only at q0 q1 q2 q3 q4 q5 q6; have R5 := hide (show Rz 99 w (w6.setCell ⟨h, 4, none⟩ (.string (strOf b))) B g zs i5 e5 w.heap.size h ⟨5, c, q, (strOf a), (strOf b), noT, noT⟩ from R.put 4 _ rfl); clear R))
      generalize (w6.setCell ⟨h, 4, none⟩ (.string (strOf b))) = w9 at *
      obtain ⟨r0, r1, r2, r3, r4, r5, r6⟩ := R5.out.c.cells7
      obtain ⟨p0, p1, p2, p3, p4, p5, p6⟩ := R5.out.res.cells7
      obtain ⟨g0, g1, g2, g3, g4, g5, g6⟩ := R5.out.res.free7
      simp only at r0 r1 r2 r3 r4 r5 r6
      go_wp2
      exact bodyPost_ret (results_row (x := ⟨5, c, q, (strOf a), (strOf b), noT, noT⟩) Try.results93 rfl (R5.out.res.seven _ _ _ _ _ _ _)) rfl (R5.out.done _ _ _ _ _ _ _)
    · obtain ⟨t2, t4, t5⟩ : (k == 2) = false ∧ (k == 4) = false ∧ (k == 5) = false := ⟨beq_eq_false_iff_ne.2 n2, beq_eq_false_iff_ne.2 n4, beq_eq_false_iff_ne.2 n5⟩
      rw [if_neg n2, if_neg n4, if_neg n5]
      have H3 := hide h3
      have H4 := hide h4
      have H5 := hide h5
      have H6 := hide h6
      have H7 := hide h7
      have H8 := hide h8
      have H9 := hide h9
      have H10 := hide h10
      have H11 := hide h11
      clear h3 h4 h5 h6 h7 h8 h9 h10 h11
      go_enter Try.func93, Try.ntmps93
      go_upto_region 2 with (go_at_call 36; (with_reducible refine H0.out.mono ?_); rintro y w1 ⟨rfl, hr1, hg1⟩)
      have R1 := hide (show Rz 99 w (w1.alloc (.cells #[.int .i64 k, .int .i64 0, .int .i64 0, .string ⟨#[]⟩, .string ⟨#[]⟩, .string ⟨#[]⟩, .string ⟨#[]⟩] 29)) B g zs i1 e1 w.heap.size w1.heap.size ⟨k, 0, 0, noT, noT, noT, noT⟩ from Rz.start ⟨k, 0, 0, noT, noT, noT, noT⟩ hr1 hg1 hlt)
      clear hr1 hg1
      generalize w1.heap.size = h at *
      generalize w1.alloc (.cells #[.int .i64 k, .int .i64 0, .int .i64 0, .string ⟨#[]⟩, .string ⟨#[]⟩, .string ⟨#[]⟩, .string ⟨#[]⟩] 29) = w2 at *
      obtain ⟨q0, q1, q2, q3, q4, q5, q6⟩ := R1.out.c.cells7
      obtain ⟨f0, f1, f2, f3, f4, f5, f6⟩ := R1.out.c.free7
      simp only at q0 q1 q2 q3 q4 q5 q6
      go_upto_region 15 with (first
        | (go_at_call 36; (with_reducible refine (Rz.num R1.out H3.out H4.out H5.out).mono ?_); rintro y w3 ⟨rfl, ⟨q0, q1, q2, q3, q4, q5, q6⟩, ⟨f0, f1, f2, f3, f4, f5, f6⟩, R⟩; simp only at q0 q1 q2 q3 q4 q5 q6; have R2 := hide (show Rz 99 w (w3.setCell ⟨h, 1, none⟩ (.int .i64 c)) B g zs i2 e2 w.heap.size h ⟨k, c, 0, noT, noT, noT, noT⟩ from R.put 1 _ rfl); clear R)
        | (go_at_call 36; (with_reducible refine (Rz.num R2.out H6.out H7.out H8.out).mono ?_); rintro y w4 ⟨rfl, ⟨q0, q1, q2, q3, q4, q5, q6⟩, ⟨f0, f1, f2, f3, f4, f5, f6⟩, R⟩; simp only at q0 q1 q2 q3 q4 q5 q6; have R3 := hide (show Rz 99 w (w4.setCell ⟨h, 2, none⟩ (.int .i64 q)) B g zs i3 e3 w.heap.size h ⟨k, c, q, noT, noT, noT, noT⟩ from R.put 2 _ rfl); clear R)
        | (go_at_call 80; (with_reducible refine (Rz.text R3.out 16 H9.out H10.out H11.out).mono ?_); rintro y w5 ⟨rfl, ⟨q0, q1, q2, q3, q4, q5, q6⟩, ⟨f0, f1, f2, f3, f4, f5, f6⟩, R⟩; simp only at q0 q1 q2 q3 q4 q5 q6; have R4 := hide (show Rz 99 w (w5.setCell ⟨h, 3, none⟩ (.string (strOf a))) B g zs i4 e4 w.heap.size h ⟨k, c, q, (strOf a), noT, noT, noT⟩ from R.put 3 _ rfl); clear R))
      generalize (w5.setCell ⟨h, 3, none⟩ (.string (strOf a))) = w9 at *
      obtain ⟨r0, r1, r2, r3, r4, r5, r6⟩ := R4.out.c.cells7
      obtain ⟨p0, p1, p2, p3, p4, p5, p6⟩ := R4.out.res.cells7
      obtain ⟨g0, g1, g2, g3, g4, g5, g6⟩ := R4.out.res.free7
      simp only at r0 r1 r2 r3 r4 r5 r6
      go_wp2
      exact bodyPost_ret (results_row (x := ⟨k, c, q, (strOf a), noT, noT, noT⟩) Try.results93 rfl (R4.out.res.seven _ _ _ _ _ _ _)) rfl (R4.out.done _ _ _ _ _ _ _)
    -- end of get-gen.py
end Go.Proofs.Ytlnpfaoeockoiaa
/- What Get of package cmd comes to. Conditions: the reader lies in memory as it must. -/
namespace Go.Proofs.Ytlnpfaoeockoiaa
set_option maxRecDepth 100000
open Go.RowKit
section
variable {t : TypeId} {W w w' : World} {B g i i' h2 h : Nat} {zs : List Int} {e e' : Int} {x : Cm}
theorem Rz.quiet (s : Rz t W w B g zs i e h2 h x) (hb : Below w.heap.size w w') : Rz t W w' B g zs i e h2 h x :=
  have h1 := s.res.lt
  have h3 := s.c.lt
  ⟨s.r.below hb, s.res.below hb h1, s.c.below hb h3, ⟨hb.os.trans s.old.os, hb.tape.trans s.old.tape, hb.output.trans s.old.output, Nat.le_trans s.old.size hb.size, fun k hk hn => (hb.block k (Nat.lt_of_lt_of_le hk s.old.size)).trans (s.old.block k hk hn)⟩, s.new, s.g2, s.lt⟩
theorem Rz.call {P : Program} {F : FuncId} {args : Array Value} {v : Value} (s : Rz t W w B g zs i e h2 h x) (hf : Calls P F args w fun y w' => y = .returned v ∧ Below w.heap.size w w') :
    Calls P F args w fun y w' => y = .returned v ∧ Cells7 w' h x ∧ (Cells7 w' h2 zeroC ∧ Free7 w' h2) ∧ Rz t W w' B g zs i e h2 h x :=
  hf.mono fun _ _ ⟨hy, hb⟩ => have z := s.quiet hb; ⟨hy, z.c.cells7, ⟨z.res.cells7, z.res.free7⟩, z⟩
end
theorem Rz.fails {W w : World} {B g i h2 h : Nat} {zs : List Int} {e : Int} {x : Cm} (s : Rz 99 W w B g zs i e h2 h x) :
    Calls Try.prog 70 #[.pointer (some ⟨g, 0, none⟩)] w fun y w' => y = .returned (.tuple #[]) ∧ Cells7 w' h x ∧ (Cells7 w' h2 zeroC ∧ Free7 w' h2) ∧ Rz 99 W w' B g zs i (rFailE e) h2 h x :=
  (pfail_any s.r).mono fun _ _ ⟨hy, hr, hg⟩ => have z := s.step hr hg; ⟨hy, z.c.cells7, ⟨z.res.cells7, z.res.free7⟩, z⟩
set_option maxRecDepth 100000 in
set_option maxHeartbeats 8000000 in
theorem get_any {w : World} {B g i : Nat} {zs : List Int} {e : Int} (h : Rdr 99 w B g zs i e) :
    Calls Try.prog 78 #[.pointer (some ⟨g, 0, none⟩)] w (ReadTo 99 w B g zs (getV zs i e, getA zs i e, getE zs i e)) := by
  have hlt := h.lt
  have h0 := read_any (h.alloc (.cells #[.int .i64 0, .int .i64 0, .int .i64 0, .string ⟨#[]⟩, .string ⟨#[]⟩, .string ⟨#[]⟩, .string ⟨#[]⟩] 29))
  unfold getV getA getE
  generalize readC zs i e = r at *
  obtain ⟨⟨k, c, q, a, b, o, v⟩, i1, e1⟩ := r
  unfold ReadTo valC at h0
  simp only at h0 ⊢
  have H0 := hide h0
  have HR := hide fun w1 => right_any k c q a b o v w1
  clear h0 h
  cases hr : rightC ⟨k, c, q, a, b, o, v⟩
  · have hE : rFailE e1 ≠ 0 := by unfold rFailE; split <;> omega
    have ht : (rFailE e1 != 0) = true := by simpa using hE
    simp only [Bool.false_eq_true, if_false, if_neg hE]
    rw [hr] at HR
    clear hr hE
    go_enter Try.func78, Try.ntmps78
    go_upto_region 4 with (go_at_call 93; (with_reducible refine H0.out.mono ?_); rintro y w1 ⟨rfl, hr1, hg1⟩)
    have R1 := hide (show Rz 99 w (w1.alloc (.cells #[.int .i64 k, .int .i64 c, .int .i64 q, .string a, .string b, .string o, .string v] 29)) B g zs i1 e1 w.heap.size w1.heap.size ⟨k, c, q, a, b, o, v⟩ from Rz.start ⟨k, c, q, a, b, o, v⟩ hr1 hg1 hlt)
    clear hr1 hg1 H0
    generalize w1.heap.size = h at *
    generalize w1.alloc (.cells #[.int .i64 k, .int .i64 c, .int .i64 q, .string a, .string b, .string o, .string v] 29) = w2 at *
    obtain ⟨q0, q1, q2, q3, q4, q5, q6⟩ := R1.out.c.cells7
    simp only at q0 q1 q2 q3 q4 q5 q6
    go_wp2_with (first
      | (go_at_call 49; (with_reducible refine (Rz.call R1.out (HR.out _)).mono ?_); rintro y w3 ⟨rfl, ⟨q0, q1, q2, q3, q4, q5, q6⟩, ⟨⟨p0, p1, p2, p3, p4, p5, p6⟩, ⟨g0, g1, g2, g3, g4, g5, g6⟩⟩, R⟩; simp only at q0 q1 q2 q3 q4 q5 q6; have R2 := hide R; clear R)
      | (go_at_call 70; (with_reducible refine (Rz.fails R2.out).mono ?_); rintro y w4 ⟨rfl, ⟨q0, q1, q2, q3, q4, q5, q6⟩, ⟨⟨p0, p1, p2, p3, p4, p5, p6⟩, ⟨g0, g1, g2, g3, g4, g5, g6⟩⟩, R⟩; simp only at q0 q1 q2 q3 q4 q5 q6; have R3 := hide R; clear R)
      | (go_at_call 27; (with_reducible refine (pwrong_any R3.out.r).mono ?_); rintro y w5 ⟨rfl, rfl⟩))
    exact bodyPost_ret (results_row (x := zeroC) Try.results78 rfl (R3.out.res.seven _ _ _ _ _ _ _)) rfl (R3.out.done _ _ _ _ _ _ _)
  · simp only [if_true]
    rw [hr] at HR
    clear hr
    by_cases hE : e1 = 0
    · subst hE
      simp only [if_true]
      go_enter Try.func78, Try.ntmps78
      go_upto_region 4 with (go_at_call 93; (with_reducible refine H0.out.mono ?_); rintro y w1 ⟨rfl, hr1, hg1⟩)
      have R1 := hide (show Rz 99 w (w1.alloc (.cells #[.int .i64 k, .int .i64 c, .int .i64 q, .string a, .string b, .string o, .string v] 29)) B g zs i1 0 w.heap.size w1.heap.size ⟨k, c, q, a, b, o, v⟩ from Rz.start ⟨k, c, q, a, b, o, v⟩ hr1 hg1 hlt)
      clear hr1 hg1 H0
      generalize w1.heap.size = h at *
      generalize w1.alloc (.cells #[.int .i64 k, .int .i64 c, .int .i64 q, .string a, .string b, .string o, .string v] 29) = w2 at *
      obtain ⟨q0, q1, q2, q3, q4, q5, q6⟩ := R1.out.c.cells7
      simp only at q0 q1 q2 q3 q4 q5 q6
      go_wp2_with (first
        | (go_at_call 49; (with_reducible refine (Rz.call R1.out (HR.out _)).mono ?_); rintro y w3 ⟨rfl, ⟨q0, q1, q2, q3, q4, q5, q6⟩, ⟨⟨p0, p1, p2, p3, p4, p5, p6⟩, ⟨g0, g1, g2, g3, g4, g5, g6⟩⟩, R⟩; simp only at q0 q1 q2 q3 q4 q5 q6; have R2 := hide R; clear R)
        | (go_at_call 27; (with_reducible refine (pwrong_any R2.out.r).mono ?_); rintro y w5 ⟨rfl, rfl⟩))
      exact bodyPost_ret (results_row (x := ⟨k, c, q, a, b, o, v⟩) Try.results78 rfl (R2.out.res.seven _ _ _ _ _ _ _)) rfl (R2.out.done _ _ _ _ _ _ _)
    · have ht : (e1 != 0) = true := by simpa using hE
      simp only [if_neg hE]
      clear hE
      go_enter Try.func78, Try.ntmps78
      go_upto_region 4 with (go_at_call 93; (with_reducible refine H0.out.mono ?_); rintro y w1 ⟨rfl, hr1, hg1⟩)
      have R1 := hide (show Rz 99 w (w1.alloc (.cells #[.int .i64 k, .int .i64 c, .int .i64 q, .string a, .string b, .string o, .string v] 29)) B g zs i1 e1 w.heap.size w1.heap.size ⟨k, c, q, a, b, o, v⟩ from Rz.start ⟨k, c, q, a, b, o, v⟩ hr1 hg1 hlt)
      clear hr1 hg1 H0
      generalize w1.heap.size = h at *
      generalize w1.alloc (.cells #[.int .i64 k, .int .i64 c, .int .i64 q, .string a, .string b, .string o, .string v] 29) = w2 at *
      obtain ⟨q0, q1, q2, q3, q4, q5, q6⟩ := R1.out.c.cells7
      simp only at q0 q1 q2 q3 q4 q5 q6
      go_wp2_with (first
        | (go_at_call 49; (with_reducible refine (Rz.call R1.out (HR.out _)).mono ?_); rintro y w3 ⟨rfl, ⟨q0, q1, q2, q3, q4, q5, q6⟩, ⟨⟨p0, p1, p2, p3, p4, p5, p6⟩, ⟨g0, g1, g2, g3, g4, g5, g6⟩⟩, R⟩; simp only at q0 q1 q2 q3 q4 q5 q6; have R2 := hide R; clear R)
        | (go_at_call 27; (with_reducible refine (pwrong_any R2.out.r).mono ?_); rintro y w5 ⟨rfl, rfl⟩))
      exact bodyPost_ret (results_row (x := zeroC) Try.results78 rfl (R2.out.res.seven _ _ _ _ _ _ _)) rfl (R2.out.done _ _ _ _ _ _ _)
end Go.Proofs.Ytlnpfaoeockoiaa
