/- The program's getBallot, readCell, GetCell. Conditions: the reader lies in memory as it must. -/
import Derived.Test.YtiaegloipnhhdaaGreatQg
import Derived.Test.YtiaegloipnhhdaaGreatQe
namespace Go.Proofs.YtiaegloipnhhdaaGreat
set_option maxRecDepth 100000
open Go.RowKit
theorem readG_of {α : Type} {t : TypeId} {w w' : World} {B g : Nat} {zs : List Int} {val : α → Value} {d : Rdm α} {e : Int} {P : α → Int → Prop} {y : Ending} {v : α} {i' : Nat} {e' : Int} (hy : y = .returned (val v)) (k : Rg t w w' B g zs i' e') (hd : Got d e v i' e') (hp : P v e') : ReadG t w B g zs val d e P y w' :=
  ⟨v, i', e', hy, k.r, k.old, hd, hp⟩
theorem ne_some {a b : Nat} (h : a ≠ b) : some a ≠ some b := fun e => h (Option.some.inj e)
set_option maxHeartbeats 4000000 in
theorem pballot_g {w : World} {B g i : Nat} {zs : List Int} {e : Int} (h : Rdr 101 w B g zs i e) :
    Calls Tryz.prog 95 #[.pointer (some ⟨g, 0, none⟩)] w (ReadG 101 w B g zs (fun p : Int × Int => .agg #[.int .i64 p.1, .int .i64 p.2]) (dBal zs i) e yes) := by
  have S0 := hide ((Rg.start h).alloc (.cells #[.int .i64 0, .int .i64 0] 32))
  have HA := hide (Row.new w 32 #[.int .i64 0, .int .i64 0])
  have hlt := h.lt
  have HNE := hide (ne_some (show w.heap.size ≠ g by omega))
  clear h hlt
  go_enter Tryz.func95, Tryz.ntmps95
  go_upto_region 1 with (fail)
  generalize w.alloc (.cells #[.int .i64 0, .int .i64 0] 32) = w0 at S0 HA ⊢
  have HN := hide (pnum_g S0.out.r)
  go_upto_region 2 with (go_at_call 28; (with_reducible refine HN.out.mono ?_); rintro x w1 ⟨a, i1, e1, rfl, hr, hg, hd, hp⟩; have S0 := hide (S0.out.step hr hg); have HA := hide (HA.out.grown hg HNE.out); have G1 := hide hd; clear hr hg hd hp HN)
  have HN := hide (pnum_g S0.out.r)
  go_wp2_with (go_at_call 28; (with_reducible refine HN.out.mono ?_); rintro x w2 ⟨b, i2, e2, rfl, hr, hg, hd, hp⟩; have S0 := hide (S0.out.step hr hg); have HA := hide (HA.out.grown hg HNE.out); have G2 := hide hd; have a0 := HA.out.cell 0; have a1 := HA.out.cell 1; have fa0 := HA.out.free 0; have fa1 := HA.out.free 1; clear hr hg hd hp HN)
  have q1 := S0.out.put (grown_set1 w2 w.heap.size 0 (.int .i64 a)) (Nat.le_refl _)
  have q2 := q1.put (grown_set1 _ w.heap.size 1 (.int .i64 b)) (Nat.le_refl _)
  have r2 := (HA.out.put 0 (.int .i64 a)).put 1 (.int .i64 b)
  exact bodyPost_ret (results_bal Tryz.results95 rfl r2) rfl (readG_of (v := (a, b)) rfl q2 (G1.out.bnd (G2.out.bnd (Got.ok _ _ _))) trivial)
/-- While a cell is read: the answer's block at r, the cell's at h. -/
structure Zx (t : TypeId) (W w : World) (B g : Nat) (zs : List Int) (i : Nat) (e : Int) (r h : Nat) (x : Cl) : Prop where
  k : Rg t W w B g zs i e
  z : CeAt w r 38 zeroCl
  c : CeAt w h 38 x
  lr : W.heap.size ≤ r
  lh : r < h
section
variable {t : TypeId} {W w w' : World} {B g i i' r h : Nat} {zs : List Int} {e e' : Int} {x x' y : Cl}
theorem Zx.step (s : Zx t W w B g zs i e r h x) (hr : Rdr t w' B g zs i' e') (hg : w.grownBy w' (some g)) : Zx t W w' B g zs i' e' r h x :=
  have h1 := s.k.lt
  have h2 := s.lr
  have h3 := s.lh
  ⟨s.k.step hr hg, s.z.other hg (by omega), s.c.other hg (by omega), s.lr, s.lh⟩
theorem Zx.quiet (s : Zx t W w B g zs i e r h x) (hb : Below w.heap.size w w') : Zx t W w' B g zs i e r h x := ⟨s.k.quiet hb, s.z.kept hb, s.c.kept hb, s.lr, s.lh⟩
theorem Zx.put (s : Zx t W w B g zs i e r h x) (hc : CeAt w' h 38 x') (hg : w.grownBy w' (some h)) : Zx t W w' B g zs i e r h x' :=
  have h2 := s.lr
  have h3 := s.lh
  ⟨s.k.put hg (by omega), s.z.other hg (by omega), hc, s.lr, s.lh⟩
theorem Zx.start (s : Rg t W w B g zs i e) (hz : CeAt w r 38 zeroCl) (lr : W.heap.size ≤ r) (hx : x.a.length = 8) : Zx t W (w.alloc (.cells (clC x) 38)) B g zs i e r w.heap.size x :=
  ⟨s.alloc _, hz.kept ((Below.refl _ _).alloc (Nat.le_refl _) _), CeAt.new hx w _, lr, hz.lt⟩
theorem Zx.wrong (s : Zx t W w B g zs i e r h x) : Zx t W (w.setCell ⟨g, 2, none⟩ (.int .i64 4)) B g zs i 4 r h x :=
  have h1 := s.k.lt
  have h2 := s.lr
  have h3 := s.lh
  ⟨s.k.wrong, s.z.other (grown_set1 _ _ _ _) (by omega), s.c.other (grown_set1 _ _ _ _) (by omega), s.lr, s.lh⟩
end
set_option maxHeartbeats 8000000 in
theorem preadcell_g {w : World} {B g i : Nat} {zs : List Int} {e : Int} (h : Rdr 101 w B g zs i e) :
    Calls Tryz.prog 63 #[.pointer (some ⟨g, 0, none⟩)] w (ReadG 101 w B g zs (fun x => .agg (clC x)) (dCl0 zs i) e (fun x _ => x.a.length = 8)) := by
  have S0 := hide ((Rg.start h).alloc (.cells (clC zeroCl) 38))
  have HA := hide (CeAt.new (x := zeroCl) rfl w 38)
  have hlt := h.lt
  have HNE := hide (show w.heap.size ≠ g by omega)
  clear h hlt
  go_enter Tryz.func63, Tryz.ntmps63
  go_upto_region 1 with (fail)
  rw [zero_cl]
  generalize w.alloc (.cells (clC zeroCl) 38) = w0 at S0 HA ⊢
  have HN := hide (pnum_g S0.out.r)
  go_upto_region 2 with (first
    | (go_at_call 28; (with_reducible refine HN.out.mono ?_); rintro x w1 ⟨st, i1, e1, rfl, hr, hg, hd, hp⟩; have S0 := hide (S0.out.step hr hg); have HA := hide (HA.out.other hg HNE.out); have G1 := hide hd; clear hr hg hd hp HN)
    | ((with_reducible refine wpList_build_one (i := 0) (u := .int .i64 st) ?_ ?_ (fill_c0 st _) ?_); rfl; rfl)
    | ((with_reducible refine wpList_store_new (vs := clC { zeroCl with st := st }) ?_ ?_ (cl_all _) ?_ ?_ ?_); exact ce_info; rfl; rfl; rfl))
  try simp only [Act.put]
  have ZX := hide (Zx.start (x := { zeroCl with st := st }) S0.out HA.out (Nat.le_refl _) rfl)
  clear S0 HA HNE
  generalize w1.alloc (.cells (clC _) 38) = w2 at ZX ⊢
  generalize w1.heap.size = h at ZX ⊢
  have HN := hide (pballot_g ZX.out.k.r)
  go_upto_region 3 with (first
    | (go_at_call 95; (with_reducible refine HN.out.mono ?_); rintro x w3 ⟨p, i2, e2, rfl, hr, hg, hd, hp⟩; have ZX := hide (ZX.out.step hr hg); have G2 := hide hd; clear hr hg hd hp HN)
    | ((with_reducible refine wpList_store_xp (p := p) ?_ ?_ ZX.out.c ?_); rfl; rfl; intro w4 hn hg; have ZX := hide (ZX.out.put hn hg); clear hn hg))
  try simp only [Act.put]
  have c0 := ZX.out.c.st
  dsimp only at c0
  by_cases h0 : st = 0
  · subst h0
    go_wp2_with (first
      | ((with_reducible refine wpList_load_ce ZX.out.c.l ?_ ?_ ZX.out.c.all ?_); rfl; rfl)
      | ((with_reducible refine wpList_store_xw ZX.out.c.l ?_ ?_ ZX.out.z ?_); rfl; rfl; intro w5 hn hg; have HF := hide (And.intro hn (ZX.out.k.put hg ZX.out.lr)); clear hn hg))
    exact bodyPost_ret (results_ce Tryz.results63 rfl HF.out.1) rfl (readG_of rfl HF.out.2 (G1.out.bnd (G2.out.bnd (by rw [if_pos rfl]; exact Got.ok _ _ _))) rfl)
  · have t0 : (st == 0) = false := by simpa using h0
    have HS := hide h0
    clear h0
    go_upto_region 5 with (fail)
    clear c0 t0
    have HN := hide (pballot_g ZX.out.k.r)
    go_upto_region 6 with (first
      | (go_at_call 95; (with_reducible refine HN.out.mono ?_); rintro x w3 ⟨v, i3, e3, rfl, hr, hg, hd, hp⟩; have ZX := hide (ZX.out.step hr hg); have G3 := hide hd; clear hr hg hd hp HN)
      | ((with_reducible refine wpList_store_xv (p := v) ?_ ?_ ZX.out.c ?_); rfl; rfl; intro w4 hn hg; have ZX := hide (ZX.out.put hn hg); clear hn hg))
    try simp only [Act.put]
    have HN := hide (pcmd_g ZX.out.k.r)
    go_upto_region 7 with (first
      | (go_at_call 96; (with_reducible refine HN.out.mono ?_); rintro x w3 ⟨c, i4, e4, rfl, hr, hg, hd, hp⟩; have ZX := hide (ZX.out.step hr hg); have G4 := hide hd; clear hr hg hd hp HN)
      | ((with_reducible refine wpList_store_xc (y := c) ?_ ?_ ZX.out.c ?_); rfl; rfl; intro w4 hn hg; have ZX := hide (ZX.out.put hn hg); clear hn hg))
    try simp only [Act.put]
    have HN := hide (pattr_g ZX.out.k.r)
    go_upto_region 8 with (first
      | (go_at_call 97; (with_reducible refine HN.out.mono ?_); rintro x w3 ⟨a, i5, e5, rfl, hr, hg, hd, hp⟩; have ZX := hide (ZX.out.step hr hg); have G5 := hide hd; have HP := hide hp; clear hr hg hd hp HN)
      | ((with_reducible refine wpList_store_xa (y := a) HP.out ?_ ?_ ZX.out.c ?_); rfl; rfl; intro w4 hn hg; have ZX := hide (ZX.out.put hn hg); clear hn hg))
    try simp only [Act.put]
    have HN := hide (pflag_g ZX.out.k.r)
    go_upto_region 9 with (first
      | (go_at_call 98; (with_reducible refine HN.out.mono ?_); rintro x w3 ⟨s, i6, e6, rfl, hr, hg, hd, hp⟩; have ZX := hide (ZX.out.step hr hg); have G6 := hide hd; clear hr hg hd hp HN)
      | ((with_reducible refine wpList_store_xs (s := s) ?_ ?_ ZX.out.c ?_); rfl; rfl; intro w4 hn hg; have ZX := hide (ZX.out.put hn hg); clear hn hg))
    try simp only [Act.put]
    go_wp2_with (first
      | ((with_reducible refine wpList_load_ce ZX.out.c.l ?_ ?_ ZX.out.c.all ?_); rfl; rfl)
      | ((with_reducible refine wpList_store_xw ZX.out.c.l ?_ ?_ ZX.out.z ?_); rfl; rfl; intro w5 hn hg; have HF := hide (And.intro hn (ZX.out.k.put hg ZX.out.lr)); clear hn hg))
    exact bodyPost_ret (results_ce Tryz.results63 rfl HF.out.1) rfl (readG_of rfl HF.out.2 (G1.out.bnd (G2.out.bnd (by rw [if_neg HS.out]; exact G3.out.bnd (G4.out.bnd (G5.out.bnd (G6.out.bnd (Got.ok _ _ _))))))) HP.out)
/-- What GetCell answers behind an error. -/
def zeroed (x : Cl) (e : Int) : Prop := x.a.length = 8 ∧ (e ≠ 0 → x = zeroCl)
set_option maxHeartbeats 8000000 in
theorem pgetcell_g {w : World} {B g i : Nat} {zs : List Int} {e : Int} (h : Rdr 101 w B g zs i e) :
    Calls Tryz.prog 29 #[.pointer (some ⟨g, 0, none⟩)] w (ReadG 101 w B g zs (fun x => .agg (clC x)) (dCl zs i) e zeroed) := by
  have S0 := hide ((Rg.start h).alloc (.cells (clC zeroCl) 38))
  have HA := hide (CeAt.new (x := zeroCl) rfl w 38)
  have hlt := h.lt
  have HNE := hide (show w.heap.size ≠ g by omega)
  clear h hlt
  go_enter Tryz.func29, Tryz.ntmps29
  go_upto_region 1 with (fail)
  rw [zero_cl]
  generalize w.alloc (.cells (clC zeroCl) 38) = w0 at S0 HA ⊢
  have HN := hide (preadcell_g S0.out.r)
  go_upto_region 4 with (first
    | (go_at_call 63; (with_reducible refine HN.out.mono ?_); rintro x w1 ⟨c, i1, e1, rfl, hr, hg, hd, hp⟩; have S0 := hide (S0.out.step hr hg); have HA := hide (HA.out.other hg HNE.out); have G1 := hide (hd.chk rightCl); have HP := hide hp; clear hr hg hd hp HN)
    | ((with_reducible refine wpList_store_new (vs := clC c) ?_ ?_ (cl_all _) ?_ ?_ ?_); rw [clC_size HP.out]; exact ce_info; rw [clC_size HP.out]; rfl; rfl; rfl))
  try simp only [Act.put]
  have ZX := hide (Zx.start (x := c) S0.out HA.out (Nat.le_refl _) HP.out)
  clear S0 HA HNE
  generalize w1.alloc (.cells (clC _) 38) = w2 at ZX ⊢
  generalize w1.heap.size = h at ZX ⊢
  have HR := hide (fun w => prightcell_any c HP.out w)
  cases hq : rightCl c
  · simp only [hq, Bool.false_eq_true, if_false] at HR G1
    have HQ := hide hq
    clear hq
    have hE : rFailE e1 ≠ 0 := by unfold rFailE; split <;> omega
    have HE := hide hE
    have t0 : (rFailE e1 != 0) = true := by simpa using hE
    clear hE
    go_upto_region 5 with (first
      | ((with_reducible refine wpList_load_ce ZX.out.c.l ?_ ?_ ZX.out.c.all ?_); rfl; rfl)
      | (go_at_call 23; (with_reducible refine (HR.out _).mono ?_); rintro x w3 ⟨rfl, hb⟩; have ZX := hide (ZX.out.quiet hb); clear hb))
    have HN := hide (pfail_any ZX.out.k.r)
    go_upto_region 6 with (go_at_call 64; (with_reducible refine HN.out.mono ?_); rintro x w4 ⟨rfl, hr, hg⟩; have ZX := hide (ZX.out.step hr hg); clear hr hg HN)
    have HN := hide (pwrong_any ZX.out.k.r)
    go_wp2_with (first
      | (go_at_call 65; (with_reducible refine HN.out.mono ?_); rintro x w5 ⟨rfl, rfl⟩)
      | ((with_reducible refine wpList_build_no ?_ (fill_cz _) ?_); rfl)
      | ((with_reducible refine wpList_store_xw (y := zeroCl) rfl ?_ ?_ ZX.out.z ?_); rfl; rfl; intro w6 hn hg; have HF := hide (And.intro hn (ZX.out.k.put hg ZX.out.lr)); clear hn hg))
    exact bodyPost_ret (results_ce Tryz.results29 rfl HF.out.1) rfl (readG_of rfl HF.out.2 (G1.out.swap (fun h => absurd h HE.out)) ⟨rfl, fun _ => rfl⟩)
  · simp only [hq, if_true] at HR G1
    have HQ := hide hq
    clear hq
    by_cases hE : e1 = 0
    · subst hE
      go_upto_region 6 with (first
        | ((with_reducible refine wpList_load_ce ZX.out.c.l ?_ ?_ ZX.out.c.all ?_); rfl; rfl)
        | (go_at_call 23; (with_reducible refine (HR.out _).mono ?_); rintro x w3 ⟨rfl, hb⟩; have ZX := hide (ZX.out.quiet hb); clear hb))
      have HN := hide (pwrong_any ZX.out.k.r)
      go_wp2_with (first
        | (go_at_call 65; (with_reducible refine HN.out.mono ?_); rintro x w5 ⟨rfl, rfl⟩)
        | ((with_reducible refine wpList_load_ce ZX.out.c.l ?_ ?_ ZX.out.c.all ?_); rfl; rfl)
        | ((with_reducible refine wpList_store_xw (y := c) ZX.out.c.l ?_ ?_ ZX.out.z ?_); rfl; rfl; intro w6 hn hg; have HF := hide (And.intro hn (ZX.out.k.put hg ZX.out.lr)); clear hn hg))
      exact bodyPost_ret (results_ce Tryz.results29 rfl HF.out.1) rfl (readG_of rfl HF.out.2 G1.out ⟨HP.out, fun h => absurd rfl h⟩)
    · have t0 : (e1 != 0) = true := by simpa using hE
      have HE := hide hE
      clear hE
      go_upto_region 6 with (first
        | ((with_reducible refine wpList_load_ce ZX.out.c.l ?_ ?_ ZX.out.c.all ?_); rfl; rfl)
        | (go_at_call 23; (with_reducible refine (HR.out _).mono ?_); rintro x w3 ⟨rfl, hb⟩; have ZX := hide (ZX.out.quiet hb); clear hb))
      have HN := hide (pwrong_any ZX.out.k.r)
      go_wp2_with (first
        | (go_at_call 65; (with_reducible refine HN.out.mono ?_); rintro x w5 ⟨rfl, rfl⟩)
        | ((with_reducible refine wpList_build_no ?_ (fill_cz _) ?_); rfl)
        | ((with_reducible refine wpList_store_xw (y := zeroCl) rfl ?_ ?_ ZX.out.z ?_); rfl; rfl; intro w6 hn hg; have HF := hide (And.intro hn (ZX.out.k.put hg ZX.out.lr)); clear hn hg))
      exact bodyPost_ret (results_ce Tryz.results29 rfl HF.out.1) rfl (readG_of rfl HF.out.2 (G1.out.swap (fun h => absurd h HE.out)) ⟨rfl, fun _ => rfl⟩)
end Go.Proofs.YtiaegloipnhhdaaGreat
/- A reader that is wrong says nothing of what it read; slots, one by one. No condition. -/
namespace Go.Proofs.YtiaegloipnhhdaaGreat
set_option maxRecDepth 100000
open Go.RowKit
theorem got_opt {α : Type} {b : Bool} {z v : α} {d : Rdm α} {i i' : Nat} {e e' : Int} (hb : b = true) (h : Got d e v i' e') : Got (dOpt b z d i) e v i' e' := by subst hb; exact h
theorem got_none {α : Type} {b : Bool} {z : α} {d : Rdm α} {i : Nat} {e : Int} (hb : b = false) : Got (dOpt b z d i) e z i e := by subst hb; exact Got.ok _ _ _
/-! ### Slots, one by one -/
theorem valsN_len (zs : List Int) : ∀ (n i : Nat) (e : Int), (valsN zs i e n).length = n
  | 0, _, _ => rfl
  | n + 1, i, e => by show (valsN zs _ _ n).length + 1 = n + 1; rw [valsN_len zs n]
theorem valsN_last (zs : List Int) : ∀ (n i : Nat) (e : Int), valsN zs i e (n + 1) = valsN zs i e n ++ [valN zs i e n]
  | 0, i, e => rfl
  | n + 1, i, e => by
    show rNumV zs i e :: valsN zs (rNumA zs i e) (rNumE zs i e) (n + 1) = _
    rw [valsN_last zs n, valN_succ]
    rfl
/-- The first j of them, then zeros. -/
def fillD (zs : List Int) (i : Nat) (e : Int) (n j : Nat) : List Int := valsN zs i e j ++ List.replicate (n - j) 0
theorem fillD_len {zs : List Int} {i : Nat} {e : Int} {n j : Nat} (h : j ≤ n) : (fillD zs i e n j).length = n := by
  unfold fillD
  rw [List.length_append, valsN_len, List.length_replicate]
  omega
theorem fillD_all (zs : List Int) (i : Nat) (e : Int) (n : Nat) : fillD zs i e n n = valsN zs i e n := by unfold fillD; rw [Nat.sub_self]; simp
theorem fillD_set {zs : List Int} {i : Nat} {e : Int} {n j : Nat} (h : j < n) : (fillD zs i e n j).set j (valN zs i e j) = fillD zs i e n (j + 1) := by
  unfold fillD
  rw [List.set_append_right _ _ (by rw [valsN_len]; exact Nat.le_refl _), valsN_len, Nat.sub_self, valsN_last]
  obtain ⟨m, hm⟩ : ∃ m, n - j = m + 1 := ⟨n - j - 1, by omega⟩
  rw [hm, show n - (j + 1) = m by omega, List.replicate_succ, List.set_cons_zero, List.append_assoc]
  rfl
theorem set_parts : ∀ (d : List Int) (k : Nat), k < d.length → ∀ n : Int, d = d.take k ++ ([ix d k] ++ d.drop (k + 1)) ∧ d.set k n = d.take k ++ ([n] ++ d.drop (k + 1))
  | [], _, h, _ => by simp at h
  | x :: d, 0, _, n => ⟨rfl, rfl⟩
  | x :: d, k + 1, h, n => by
    obtain ⟨h1, h2⟩ := set_parts d k (by simpa using h) n
    refine ⟨?_, ?_⟩
    · show x :: d = x :: (d.take k ++ ([ix d k] ++ d.drop (k + 1)))
      rw [← h1]
    · show x :: d.set k n = x :: (d.take k ++ ([n] ++ d.drop (k + 1)))
      rw [← h2]
theorem cellsR_app (a b : List Int) : cellsR (a ++ b) = cellsR a ++ cellsR b := by unfold cellsR; exact List.map_append
theorem got_wrong {α : Type} {d : Rdm α} {e : Int} (he : e ≠ 0) (v : α) (i : Nat) : Got d e v i e := ⟨fun _ => rfl, fun h => absurd h he⟩
theorem Got.any {α β : Type} {d : Rdm α} {d2 : Rdm β} {e e' : Int} {v : α} {i' : Nat} (he : e ≠ 0) (h : Got d e v i' e') (u : β) : Got d2 e u i' e' := ⟨h.1, fun h0 => absurd h0 he⟩
end Go.Proofs.YtiaegloipnhhdaaGreat
/- The document's getAttr, getCommand. Conditions: the reader lies in memory as it must. -/
namespace Go.Proofs.YtiaegloipnhhdaaGreat
set_option maxRecDepth 100000
open Go.RowKit
/-- While a struct is read: the answer's block at r, the struct's at h. -/
structure Zr (t T : TypeId) (W w : World) (B g : Nat) (zs : List Int) (i : Nat) (e : Int) (r h : Nat) (zc cs : Array Value) : Prop where
  k : Rg t W w B g zs i e
  z : Row w r T zc
  c : Row w h T cs
  lr : W.heap.size ≤ r
  lh : r < h
section
variable {t T : TypeId} {W w w' : World} {B g i i' r h : Nat} {zs : List Int} {e e' : Int} {zc cs cs' : Array Value}
theorem Zr.step (s : Zr t T W w B g zs i e r h zc cs) (hr : Rdr t w' B g zs i' e') (hg : w.grownBy w' (some g)) : Zr t T W w' B g zs i' e' r h zc cs :=
  have h1 := s.k.lt
  have h2 := s.lr
  have h3 := s.lh
  ⟨s.k.step hr hg, s.z.grown hg (ne_some (by omega)), s.c.grown hg (ne_some (by omega)), s.lr, s.lh⟩
theorem Zr.quiet (s : Zr t T W w B g zs i e r h zc cs) (hb : Below w.heap.size w w') : Zr t T W w' B g zs i e r h zc cs := ⟨s.k.quiet hb, s.z.below hb s.z.lt, s.c.below hb s.c.lt, s.lr, s.lh⟩
theorem Zr.put (s : Zr t T W w B g zs i e r h zc cs) (hc : Row w' h T cs') (hg : w.grownBy w' (some h)) : Zr t T W w' B g zs i e r h zc cs' :=
  have h2 := s.lr
  have h3 := s.lh
  ⟨s.k.put hg (by omega), s.z.grown hg (ne_some (by omega)), hc, s.lr, s.lh⟩
theorem Zr.start (s : Rg t W w B g zs i e) (hz : Row w r T zc) (lr : W.heap.size ≤ r) (cs : Array Value) : Zr t T W (w.alloc (.cells cs T)) B g zs i e r w.heap.size zc cs :=
  ⟨s.alloc _, hz.below ((Below.refl _ _).alloc (Nat.le_refl _) _) hz.lt, Row.new w T cs, lr, hz.lt⟩
theorem Zr.wrong (s : Zr t T W w B g zs i e r h zc cs) : Zr t T W (w.setCell ⟨g, 2, none⟩ (.int .i64 4)) B g zs i 4 r h zc cs := s.step (s.k.r.wrong (by omega)) (grown_set1 _ _ _ _)
theorem Rdr.err2 (s : Rdr t w B g zs i e) : w.cell? ⟨g, 2, none⟩ = some (.int .i64 e) ∧ w.frozen? ⟨g, 2, none⟩ = false := by
  obtain ⟨A, c, _, _, h2, _, h4, _⟩ := s.cells
  exact ⟨h2, h4⟩
end
section
variable {ops : Array Oper} {rest : List Oper} {d : Option Tmp} {ty : TypeId} {ps : String} {af : Array Edge} {x u : Operand} {a : Act} {w : World} {Q : Exit → Act → World → Prop} {b j : Nat} {t : TypeId} {cs : Array Value}
theorem wpList_store_ri {n : Int} (hj : j < cs.size) (hx : a.eval x = .pointer (some ⟨b, j, none⟩)) (hy : a.eval u = .int .i64 n) (R : Row w b t cs) (h : ∀ w', Row w' b t (cs.setIfInBounds j (.int .i64 n)) → w.grownBy w' (some b) → wpList Tryz.prog ops Q rest (a.put d undef) w') :
    wpList Tryz.prog ops Q ({ dst := d, op := .store 3 x u, type := ty, pos := ps, after := af, guard := none } :: rest) a w :=
  wpList_plain rfl fun K hK => by
    have hz : w.cell? ⟨b, j, none⟩ = some cs[j] := by rw [R.cell, Array.getElem?_eq_getElem hj]
    have hf := R.free j
    have h2 := hK _ _ (h _ (R.put j _) (grown_set1 w b j _))
    unfold Oper.wp execOp
    simp only [hx, hy]
    go_simp
    exact h2
theorem wpList_store_rs {n : ByteArray} (hj : j < cs.size) (hx : a.eval x = .pointer (some ⟨b, j, none⟩)) (hy : a.eval u = .string n) (R : Row w b t cs) (h : ∀ w', Row w' b t (cs.setIfInBounds j (.string n)) → w.grownBy w' (some b) → wpList Tryz.prog ops Q rest (a.put d undef) w') :
    wpList Tryz.prog ops Q ({ dst := d, op := .store 9 x u, type := ty, pos := ps, after := af, guard := none } :: rest) a w :=
  wpList_plain rfl fun K hK => by
    have hz : w.cell? ⟨b, j, none⟩ = some cs[j] := by rw [R.cell, Array.getElem?_eq_getElem hj]
    have hf := R.free j
    have h2 := hK _ _ (h _ (R.put j _) (grown_set1 w b j _))
    unfold Oper.wp execOp
    simp only [hx, hy]
    go_simp
    exact h2
/-- A whole struct is stored. -/
theorem wpList_store_rw {T : TypeId} {vs : List Value} (hi : (Tryz.prog.info? T).map (·.size) = some vs.length) (hs : cs.size = vs.length) (h1 : ∀ v, v ∈ vs → v.oneCell' = true) (hx : a.eval x = .pointer (some ⟨b, 0, none⟩)) (hy : a.eval u = .agg vs.toArray) (R : Row w b t cs)
    (h : ∀ w', Row w' b t vs.toArray → w.grownBy w' (some b) → wpList Tryz.prog ops Q rest (a.put d undef) w') :
    wpList Tryz.prog ops Q ({ dst := d, op := .store T x u, type := ty, pos := ps, after := af, guard := none } :: rest) a w :=
  wpList_plain rfl fun K hK => by
    have hth : w.there b 0 vs.toArray.size := fun j hj => ⟨by rw [R.cell, Array.getElem?_eq_getElem (by rw [List.size_toArray] at hj; omega)]; rfl, R.free _⟩
    refine wp_store_mid T x u rfl b 0 vs.toArray hx hy hth (by rw [List.size_toArray]; exact hi) (all_oneCell_toArray h1) ?_
    refine hK _ _ (h _ ?_ (grown_setCells b vs 0 w))
    have hr := Row.puts vs 0 R
    have e := puts_mid vs cs.toList [] [] (by rw [Array.length_toList]; exact hs.symm)
    simp only [List.nil_append, List.append_nil, List.length_nil] at e
    rw [show cs.toList.toArray = cs by simp] at e
    rw [e] at hr
    exact hr
end
theorem fill_a0 (n : Int) (w : World) : (Instr.build 36 #[(0, .int .i64 n)]).run Tryz.prog w = .ok (.agg (cA [n, 0, 0, 0, 0, 0, 0, 0])) w := by kernel_rfl
theorem at_info8 {l : List Int} (h : l.length = 8) : (Tryz.prog.info? 36).map (·.size) = some (cA l).size := by rw [show (cA l).size = l.length by unfold cA; rw [List.size_toArray, length_cellsR], h]; exact at_info
theorem cA_all (l : List Int) : (cA l).all (·.oneCell') = true := all_oneCell_toArray one_ints
theorem cA_size (l : List Int) : (cA l).size = l.length := by unfold cA; rw [List.size_toArray, length_cellsR]
theorem cA_set (l : List Int) (j : Nat) (n : Int) : (cA l).setIfInBounds j (.int .i64 n) = cA (l.set j n) := by
  unfold cA cellsR
  rw [List.setIfInBounds_toArray, List.map_set]
theorem zero_at : (#[.int .i64 0, .int .i64 0, .int .i64 0, .int .i64 0, .int .i64 0, .int .i64 0, .int .i64 0, .int .i64 0] : Array Value) = cA zero8 := rfl
theorem results_al {fn : Func} {tmps : Array Value} {w : World} {a h : Nat} {t : TypeId} {l : List Int} (hf : fn.results = #[.cell a 36]) (ht : tmps.getD a undef = .pointer (some ⟨h, 0, none⟩)) (R : Row w h t (cA l)) (h8 : l.length = 8) :
    (results fn tmps).run Tryz.prog w = .ok (.agg (cA l)) w :=
  results_cell_row hf tmps w h t _ _ _ ht R at_under rfl (at_info8 h8)
theorem cA_range {w : World} {g : Nat} {t : TypeId} {l : List Int} (h : Row w g t (cA l)) : w.rangeAt g 0 (cellsR l) := h.mid (A := []) (ys := cellsR l) (B := []) (by unfold cA; simp) rfl
set_option maxHeartbeats 16000000 in
theorem rattr_g {w : World} {B g i : Nat} {zs : List Int} {e : Int} (h : Rdr 120 w B g zs i e) :
    Calls Tryz.prog 78 #[.pointer (some ⟨g, 0, none⟩)] w (ReadG 120 w B g zs (fun a => .agg (cA a)) (dAt zs i) e (fun a _ => a.length = 8)) := by
  have S0 := hide ((Rg.start h).alloc (.cells (cA zero8) 36))
  have HA := hide (Row.new w 36 (cA zero8))
  have hlt := h.lt
  have HNE := hide (ne_some (show w.heap.size ≠ g by omega))
  have HG := hide (got_nums zs 8 i e)
  clear h hlt
  go_enter Tryz.func78, Tryz.ntmps78
  go_upto_region 1 with (fail)
  rw [zero_at]
  generalize w.alloc (.cells (cA zero8) 36) = w0 at S0 HA ⊢
  have HN := hide (rnum_to S0.out.r)
  go_upto_region 2 with (first
    | (go_at_call 75; (with_reducible refine HN.out.mono ?_); rintro x w1 ⟨rfl, hr, hg⟩; have S0 := hide (S0.out.step hr hg); have HA := hide (HA.out.grown hg HNE.out); clear hr hg HN)
    | ((with_reducible refine wpList_build_one (i := 0) (u := .int .i64 (rNumV zs i e)) ?_ ?_ (fill_a0 _ _) ?_); rfl; rfl)
    | ((with_reducible refine wpList_store_new (vs := cA [rNumV zs i e, 0, 0, 0, 0, 0, 0, 0]) ?_ ?_ (cA_all _) ?_ ?_ ?_); exact at_info; rfl; rfl; rfl))
  try simp only [Act.put]
  have ZR := hide (show Zr 120 36 w (w1.alloc (.cells (cA [rNumV zs i e, 0, 0, 0, 0, 0, 0, 0]) 36)) B g zs (stN zs i e (1 + 0)).1 (stN zs i e (1 + 0)).2 w.heap.size w1.heap.size (cA zero8) (cA (fillD zs i e 8 (1 + 0))) from Zr.start S0.out HA.out (Nat.le_refl _) _)
  clear S0 HA HNE
  generalize w1.alloc (.cells (cA _) 36) = w2 at ZR ⊢
  generalize w1.heap.size = h at ZR ⊢
  go_wp2
  go_loopw [4] (fun j wr => ∃ n : Nat, n ≤ 7 ∧ j = .int .i64 n ∧ Hid (Zr 120 36 w wr B g zs (stN zs i e (1 + n)).1 (stN zs i e (1 + n)).2 w.heap.size h (cA zero8) (cA (fillD zs i e 8 (1 + n))))) (fun j _ => 7 - (intOf j).toNat)
  case atStart => exact ⟨0, by omega, rfl, ZR⟩
  case round =>
    clear ZR
    obtain ⟨n, hn, rfl, ZR⟩ := hrel
    by_cases hlt : n < 7
    · have HN := hide (rnum_to ZR.out.k.r)
      have n7 : (n : Int) < 7 := by omega
      have n0 : (0 : Int) ≤ (n : Int) := by omega
      have HS := hide (fillD_set (zs := zs) (i := i) (e := e) (n := 8) (j := 1 + n) (by omega))
      have HL := hide (show 1 + n < (cA (fillD zs i e 8 (1 + n))).size by rw [cA_size, fillD_len (by omega)]; omega)
      have HP := hide (fun (w' : World) (R : Row w' h 36 ((cA (fillD zs i e 8 (1 + n))).setIfInBounds (1 + n) (.int .i64 (valN zs i e (1 + n))))) => (show Row w' h 36 (cA (fillD zs i e 8 (1 + (n + 1)))) from by rw [cA_set, HS.out] at R; exact R))
      go_wp2_with (first
        | (go_at_call 75; (with_reducible refine HN.out.mono ?_); rintro x w3 ⟨rfl, hr, hg⟩; have ZR := hide (ZR.out.step hr hg); clear hr hg HN)
        | ((with_reducible refine wpList_store_ri (j := 1 + n) (n := rNumV zs (stN zs i e (1 + n)).1 (stN zs i e (1 + n)).2) HL.out ?_ ?_ ZR.out.c ?_); rfl; rfl; intro w4 hn hg; have ZR := hide (ZR.out.put (HP.out _ hn) hg); clear hn hg))
      have ZR2 := hide (show Zr 120 36 w w4 B g zs (stN zs i e (1 + (n + 1))).1 (stN zs i e (1 + (n + 1))).2 w.heap.size h (cA zero8) (cA (fillD zs i e 8 (1 + (n + 1)))) from by rw [show 1 + (n + 1) = (1 + n) + 1 by omega, stN_last]; exact ZR.out)
      clear ZR HS HL HP
      go_roundw
      case rel => exact ⟨n + 1, by omega, by go_num, ZR2⟩
      case measure => simp [intOf]; omega
    · obtain rfl : n = 7 := by omega
      have n7 : ¬ (((7 : Nat) : Int) < 7) := by omega
      have h8 : (valsN zs i e 8).length = 8 := valsN_len zs 8 i e
      have ZR := hide (show Zr 120 36 w wr B g zs (stN zs i e 8).1 (stN zs i e 8).2 w.heap.size h (cA zero8) (cA (valsN zs i e 8)) from by have := ZR.out; rw [show 1 + 7 = 8 from rfl, fillD_all] at this; exact this)
      have hG : Got (dAt zs i) e (valsN zs i e 8) (stN zs i e 8).1 (if rightAl (valsN zs i e 8) then (stN zs i e 8).2 else rFailE (stN zs i e 8).2) := HG.out.chk rightAl
      clear HG
      generalize valsN zs i e 8 = a at ZR h8 hG
      generalize (stN zs i e 8).1 = i8 at ZR hG
      generalize (stN zs i e 8).2 = e8 at ZR hG
      have HR := fun w => rright_al h8 w
      obtain ⟨c2, f2⟩ := ZR.out.k.r.err2
      by_cases he : e8 = 0
      · subst he
        cases hq : rightAl a
        · simp only [hq, Bool.false_eq_true, if_false] at HR hG
          have HGG := hide (show Got (dAt zs i) e a i8 4 from hG)
          clear hG hq
          go_upto_region 7 with (first
            | ((with_reducible refine wpList_load_at h8 ?_ ?_ (cA_range ZR.out.c) ?_); rfl; rfl)
            | (go_at_call 44; (with_reducible refine (HR _).mono ?_); rintro x w5 ⟨rfl, hb⟩; have ZR := hide (ZR.out.quiet hb); clear hb))
          clear c2 f2
          obtain ⟨c2, f2⟩ := ZR.out.k.r.err2
          have ZR := hide ZR.out.wrong
          go_upto_region 8 with (fail)
          clear c2 f2
          generalize w5.setCell _ _ = w6 at ZR ⊢
          go_wp2_with (first
            | ((with_reducible refine wpList_load_at h8 ?_ ?_ (cA_range ZR.out.c) ?_); rfl; rfl)
            | ((with_reducible refine wpList_store_rw (vs := cellsR a) ?_ ?_ one_ints ?_ ?_ ZR.out.z ?_); rw [length_cellsR, h8]; exact at_info; rw [length_cellsR, h8]; rfl; rfl; rfl; intro w7 hn hg; have HF := hide (And.intro hn (ZR.out.k.put hg ZR.out.lr)); clear hn hg))
          exact bodyPost_ret (results_al Tryz.results78 rfl HF.out.1 h8) rfl (readG_of rfl HF.out.2 HGG.out h8)
        · simp only [hq, if_true] at HR hG
          have HGG := hide hG
          clear hG hq
          go_upto_region 8 with (first
            | ((with_reducible refine wpList_load_at h8 ?_ ?_ (cA_range ZR.out.c) ?_); rfl; rfl)
            | (go_at_call 44; (with_reducible refine (HR _).mono ?_); rintro x w5 ⟨rfl, hb⟩; have ZR := hide (ZR.out.quiet hb); clear hb))
          clear c2 f2
          go_wp2_with (first
            | ((with_reducible refine wpList_load_at h8 ?_ ?_ (cA_range ZR.out.c) ?_); rfl; rfl)
            | ((with_reducible refine wpList_store_rw (vs := cellsR a) ?_ ?_ one_ints ?_ ?_ ZR.out.z ?_); rw [length_cellsR, h8]; exact at_info; rw [length_cellsR, h8]; rfl; rfl; rfl; intro w7 hn hg; have HF := hide (And.intro hn (ZR.out.k.put hg ZR.out.lr)); clear hn hg))
          exact bodyPost_ret (results_al Tryz.results78 rfl HF.out.1 h8) rfl (readG_of rfl HF.out.2 HGG.out h8)
      · have t0 : (e8 == 0) = false := by simpa using he
        have HGG := hide (show Got (dAt zs i) e a i8 e8 from by
          have : rFailE e8 = e8 := by unfold rFailE; rw [if_neg he]
          rw [this] at hG
          split at hG <;> exact hG)
        clear he hG
        go_upto_region 8 with (fail)
        clear c2 f2
        go_wp2_with (first
          | ((with_reducible refine wpList_load_at h8 ?_ ?_ (cA_range ZR.out.c) ?_); rfl; rfl)
          | ((with_reducible refine wpList_store_rw (vs := cellsR a) ?_ ?_ one_ints ?_ ?_ ZR.out.z ?_); rw [length_cellsR, h8]; exact at_info; rw [length_cellsR, h8]; rfl; rfl; rfl; intro w7 hn hg; have HF := hide (And.intro hn (ZR.out.k.put hg ZR.out.lr)); clear hn hg))
        exact bodyPost_ret (results_al Tryz.results78 rfl HF.out.1 h8) rfl (readG_of rfl HF.out.2 HGG.out h8)
end Go.Proofs.YtiaegloipnhhdaaGreat
/- The document's getCommand, GetCell. Conditions: the reader lies in memory as it must. -/
namespace Go.Proofs.YtiaegloipnhhdaaGreat
set_option maxRecDepth 100000
open Go.RowKit
theorem zero_cm : (#[.int .i64 0, .int .i64 0, .int .i64 0, .string ⟨#[]⟩, .string ⟨#[]⟩, .string ⟨#[]⟩, .string ⟨#[]⟩] : Array Value) = rowC zeroC := rfl
theorem fill_cm0 (k : Int) (w : World) : (Instr.build 34 #[(0, .int .i64 k)]).run Tryz.prog w = .ok (.agg (rowC { zeroC with k := k })) w := by kernel_rfl
theorem cm_all (c : Cm) : (rowC c).all (·.oneCell') = true := all_oneCell_toArray (cs := c.l) (one_cm c)
theorem cm_range {w : World} {g : Nat} {t : TypeId} {c : Cm} (h : Row w g t (rowC c)) : w.rangeAt g 0 c.l := h.mid (A := []) (ys := c.l) (B := []) (by rfl) rfl
theorem results_cm {fn : Func} {tmps : Array Value} {w : World} {a h : Nat} {t : TypeId} {c : Cm} (hf : fn.results = #[.cell a 34]) (ht : tmps.getD a undef = .pointer (some ⟨h, 0, none⟩)) (R : Row w h t (rowC c)) :
    (results fn tmps).run Tryz.prog w = .ok (.agg (rowC c)) w :=
  results_cell_row hf tmps w h t _ _ _ ht R cm_under rfl cm_info
theorem rright_cc (c : Cm) (w : World) : Calls Tryz.prog 43 #[.agg #[.int .i64 c.k, .int .i64 c.c, .int .i64 c.q, .string c.key, .string c.en, .string c.old, .string c.val]] w fun e w' => e = .returned (.bool (rightC c)) ∧ Below w.heap.size w w' := rright_to c.k c.c c.q c.key c.en c.old c.val w
theorem got_cond {α : Type} {d : Rdm α} {e e' : Int} {v : α} {i' : Nat} {b : Bool} (h : Got d e v i' (if b then e' else rFailE e')) (he : e' ≠ 0) : Got d e v i' e' := by
  have : rFailE e' = e' := by unfold rFailE; rw [if_neg he]
  rw [this] at h
  split at h <;> exact h
/-- Behind the reading: the command is held against Right. -/
structure Ty (w : World) (B g : Nat) (zs : List Int) (i : Nat) (e : Int) (w' : World) (h : Nat) (c : Cm) (i' : Nat) (e' : Int) : Prop where
  z : Zr 120 34 w w' B g zs i' e' w.heap.size h (rowC zeroC) (rowC c)
  g : Got (dCm0 zs i) e c i' e'
set_option maxHeartbeats 32000000 in
theorem rcmd_g {w : World} {B g i : Nat} {zs : List Int} {e : Int} (h : Rdr 120 w B g zs i e) :
    Calls Tryz.prog 77 #[.pointer (some ⟨g, 0, none⟩)] w (ReadG 120 w B g zs (fun c : Cm => .agg #[.int .i64 c.k, .int .i64 c.c, .int .i64 c.q, .string c.key, .string c.en, .string c.old, .string c.val]) (dCm zs i) e yes) := by
  have S0 := hide ((Rg.start h).alloc (.cells (rowC zeroC) 34))
  have HA := hide (Row.new w 34 (rowC zeroC))
  have hlt := h.lt
  have HNE := hide (ne_some (show w.heap.size ≠ g by omega))
  clear h hlt
  go_enter Tryz.func77, Tryz.ntmps77
  go_upto_region 1 with (fail)
  rw [zero_cm]
  generalize w.alloc (.cells (rowC zeroC) 34) = w0 at S0 HA ⊢
  have HN := hide (rnum_g S0.out.r)
  go_upto_region 2 with (first
    | (go_at_call 75; (with_reducible refine HN.out.mono ?_); rintro x w1 ⟨k, i1, e1, rfl, hr, hg, hd, hp⟩; have S0 := hide (S0.out.step hr hg); have HA := hide (HA.out.grown hg HNE.out); have G1 := hide hd; clear hr hg hd hp HN)
    | ((with_reducible refine wpList_build_one (i := 0) (u := .int .i64 k) ?_ ?_ (fill_cm0 k _) ?_); rfl; rfl)
    | ((with_reducible refine wpList_store_new (vs := rowC { zeroC with k := k }) ?_ ?_ (cm_all _) ?_ ?_ ?_); exact cm_info; rfl; rfl; rfl))
  try simp only [Act.put]
  have ZR := hide (show Zr 120 34 w (w1.alloc (.cells (rowC { zeroC with k := k }) 34)) B g zs i1 e1 w.heap.size w1.heap.size (rowC zeroC) (rowC { zeroC with k := k }) from Zr.start S0.out HA.out (Nat.le_refl _) _)
  clear S0 HA HNE
  generalize w1.alloc (.cells (rowC _) 34) = w2 at ZR ⊢
  generalize w1.heap.size = h at ZR ⊢
  obtain ⟨c2, f2⟩ := ZR.out.k.r.err2
  have c0 : w2.cell? ⟨h, 0, none⟩ = some (.int .i64 k) := ZR.out.c.cell 0
  by_cases he1 : e1 = 0
  · subst he1
    by_cases hk0 : k = 0
    · subst hk0
      have TY := hide (show Ty w B g zs i e w2 h zeroC i1 0 from ⟨ZR.out, by unfold dCm0; exact G1.out.bnd (by rw [if_pos rfl]; exact Got.ok _ _ _)⟩)
      clear ZR G1
      go_upto_region 14 with (fail)
      clear c0 c2 f2
      have HR := fun w => rright_cc (zeroC) w
      have HG := TY.out.g.chk rightC
      obtain ⟨c2, f2⟩ := TY.out.z.k.r.err2
      cases hq : rightC (zeroC)
      · simp only [hq, Bool.false_eq_true, if_false] at HR HG
        have HGG := hide (show Got (dCm zs i) e (zeroC) i1 4 from HG)
        have TY := hide TY.out.z
        clear HG hq
        go_upto_region 15 with (first
          | ((with_reducible refine wpList_load_cm (y := (zeroC)) ?_ ?_ (cm_range TY.out.c) ?_); rfl; rfl)
          | (go_at_call 43; (with_reducible refine (HR _).mono ?_); rintro x w5 ⟨rfl, hb⟩; have TY := hide (TY.out.quiet hb); clear hb))
        clear c2 f2
        obtain ⟨c2, f2⟩ := TY.out.k.r.err2
        have TY := hide TY.out.wrong
        go_upto_region 16 with (fail)
        clear c2 f2
        generalize w5.setCell _ _ = w6 at TY ⊢
        go_wp2_with (first
          | ((with_reducible refine wpList_load_cm (y := (zeroC)) ?_ ?_ (cm_range TY.out.c) ?_); rfl; rfl)
          | ((with_reducible refine wpList_store_rw (vs := Cm.l (zeroC)) ?_ ?_ (one_cm _) ?_ ?_ TY.out.z ?_); exact cm_info; rfl; rfl; rfl; intro w7 hn hg; have HF := hide (And.intro hn (TY.out.k.put hg TY.out.lr)); clear hn hg))
        exact bodyPost_ret (results_cm (c := (zeroC)) Tryz.results77 rfl HF.out.1) rfl (readG_of (v := (zeroC)) rfl HF.out.2 HGG.out trivial)
      · simp only [hq, if_true] at HR HG
        have HGG := hide (show Got (dCm zs i) e (zeroC) i1 0 from HG)
        have TY := hide TY.out.z
        clear HG hq
        go_upto_region 16 with (first
          | ((with_reducible refine wpList_load_cm (y := (zeroC)) ?_ ?_ (cm_range TY.out.c) ?_); rfl; rfl)
          | (go_at_call 43; (with_reducible refine (HR _).mono ?_); rintro x w5 ⟨rfl, hb⟩; have TY := hide (TY.out.quiet hb); clear hb))
        clear c2 f2
        go_wp2_with (first
          | ((with_reducible refine wpList_load_cm (y := (zeroC)) ?_ ?_ (cm_range TY.out.c) ?_); rfl; rfl)
          | ((with_reducible refine wpList_store_rw (vs := Cm.l (zeroC)) ?_ ?_ (one_cm _) ?_ ?_ TY.out.z ?_); exact cm_info; rfl; rfl; rfl; intro w7 hn hg; have HF := hide (And.intro hn (TY.out.k.put hg TY.out.lr)); clear hn hg))
        exact bodyPost_ret (results_cm (c := (zeroC)) Tryz.results77 rfl HF.out.1) rfl (readG_of (v := (zeroC)) rfl HF.out.2 HGG.out trivial)
    · have tk : (k == 0) = false := by simpa using hk0
      have tk' : (k != 0) = true := by simpa using hk0
      have HK0 := hide hk0
      clear hk0
      go_upto_region 3 with (fail)
      clear c0 c2 f2 tk tk'
      have HN := hide (rnum_g ZR.out.k.r)
      go_upto_region 4 with (first
        | (go_at_call 75; (with_reducible refine HN.out.mono ?_); rintro x w3 ⟨cc, i2, e2, rfl, hr, hg, hd, hp⟩; have ZR := hide (ZR.out.step hr hg); have G2 := hide hd; clear hr hg hd hp HN)
        | ((with_reducible refine wpList_store_ri (j := 1) (n := cc) ?_ ?_ ?_ ZR.out.c ?_); exact (by decide : 1 < 7); rfl; rfl; intro w4 hn hg; have ZR := hide (ZR.out.put (cs' := rowC { zeroC with k := k, c := cc }) hn hg); clear hn hg))
      try simp only [Act.put]
      have HN := hide (rnum_g ZR.out.k.r)
      go_upto_region 5 with (first
        | (go_at_call 75; (with_reducible refine HN.out.mono ?_); rintro x w3 ⟨cq, i3, e3, rfl, hr, hg, hd, hp⟩; have ZR := hide (ZR.out.step hr hg); have G3 := hide hd; clear hr hg hd hp HN)
        | ((with_reducible refine wpList_store_ri (j := 2) (n := cq) ?_ ?_ ?_ ZR.out.c ?_); exact (by decide : 2 < 7); rfl; rfl; intro w4 hn hg; have ZR := hide (ZR.out.put (cs' := rowC { zeroC with k := k, c := cc, q := cq }) hn hg); clear hn hg))
      try simp only [Act.put]
      have HN := hide (rtext_g ZR.out.k.r 16)
      go_upto_region 6 with (first
        | (go_at_call 121; (with_reducible refine HN.out.mono ?_); rintro x w3 ⟨ca, i4, e4, rfl, hr, hg, hd, hp⟩; have ZR := hide (ZR.out.step hr hg); have G4 := hide hd; clear hr hg hd hp HN)
        | ((with_reducible refine wpList_store_rs (j := 3) (n := ca) ?_ ?_ ?_ ZR.out.c ?_); exact (by decide : 3 < 7); rfl; rfl; intro w4 hn hg; have ZR := hide (ZR.out.put (cs' := rowC { zeroC with k := k, c := cc, q := cq, key := ca }) hn hg); clear hn hg))
      try simp only [Act.put]
      have c0 : w4.cell? ⟨h, 0, none⟩ = some (.int .i64 k) := ZR.out.c.cell 0
      by_cases hk2 : k = 2
      · subst hk2
        go_upto_region 8 with (fail)
        clear c0
        have HN := hide (rtext_g ZR.out.k.r 64)
        go_upto_region 14 with (first
          | (go_at_call 121; (with_reducible refine HN.out.mono ?_); rintro x w3 ⟨cv, i5, e5, rfl, hr, hg, hd, hp⟩; have ZR := hide (ZR.out.step hr hg); have G5 := hide hd; clear hr hg hd hp HN)
          | ((with_reducible refine wpList_store_rs (j := 6) (n := cv) ?_ ?_ ?_ ZR.out.c ?_); exact (by decide : 6 < 7); rfl; rfl; intro w4 hn hg; have ZR := hide (ZR.out.put (cs' := rowC { zeroC with k := 2, c := cc, q := cq, key := ca, val := cv }) hn hg); clear hn hg))
        try simp only [Act.put]
        have TY := hide (show Ty w B g zs i e w4 h { zeroC with k := 2, c := cc, q := cq, key := ca, val := cv } i5 e5 from ⟨ZR.out, by unfold dCm0; exact G1.out.bnd (by rw [if_neg HK0.out]; exact G2.out.bnd (G3.out.bnd (G4.out.bnd (by rw [if_pos rfl]; exact G5.out.bnd (Got.ok _ _ _)))))⟩)
        have HR := fun w => rright_cc ({ zeroC with k := 2, c := cc, q := cq, key := ca, val := cv } : Cm) w
        have HG := TY.out.g.chk rightC
        obtain ⟨c2, f2⟩ := TY.out.z.k.r.err2
        by_cases he : e5 = 0
        · subst he
          cases hq : rightC ({ zeroC with k := 2, c := cc, q := cq, key := ca, val := cv } : Cm)
          · simp only [hq, Bool.false_eq_true, if_false] at HR HG
            have HGG := hide (show Got (dCm zs i) e ({ zeroC with k := 2, c := cc, q := cq, key := ca, val := cv } : Cm) i5 4 from HG)
            have TY := hide TY.out.z
            clear HG hq
            go_upto_region 15 with (first
              | ((with_reducible refine wpList_load_cm (y := ({ zeroC with k := 2, c := cc, q := cq, key := ca, val := cv } : Cm)) ?_ ?_ (cm_range TY.out.c) ?_); rfl; rfl)
              | (go_at_call 43; (with_reducible refine (HR _).mono ?_); rintro x w5 ⟨rfl, hb⟩; have TY := hide (TY.out.quiet hb); clear hb))
            clear c2 f2
            obtain ⟨c2, f2⟩ := TY.out.k.r.err2
            have TY := hide TY.out.wrong
            go_upto_region 16 with (fail)
            clear c2 f2
            generalize w5.setCell _ _ = w6 at TY ⊢
            go_wp2_with (first
              | ((with_reducible refine wpList_load_cm (y := ({ zeroC with k := 2, c := cc, q := cq, key := ca, val := cv } : Cm)) ?_ ?_ (cm_range TY.out.c) ?_); rfl; rfl)
              | ((with_reducible refine wpList_store_rw (vs := Cm.l ({ zeroC with k := 2, c := cc, q := cq, key := ca, val := cv } : Cm)) ?_ ?_ (one_cm _) ?_ ?_ TY.out.z ?_); exact cm_info; rfl; rfl; rfl; intro w7 hn hg; have HF := hide (And.intro hn (TY.out.k.put hg TY.out.lr)); clear hn hg))
            exact bodyPost_ret (results_cm (c := ({ zeroC with k := 2, c := cc, q := cq, key := ca, val := cv } : Cm)) Tryz.results77 rfl HF.out.1) rfl (readG_of (v := ({ zeroC with k := 2, c := cc, q := cq, key := ca, val := cv } : Cm)) rfl HF.out.2 HGG.out trivial)
          · simp only [hq, if_true] at HR HG
            have HGG := hide (show Got (dCm zs i) e ({ zeroC with k := 2, c := cc, q := cq, key := ca, val := cv } : Cm) i5 0 from HG)
            have TY := hide TY.out.z
            clear HG hq
            go_upto_region 16 with (first
              | ((with_reducible refine wpList_load_cm (y := ({ zeroC with k := 2, c := cc, q := cq, key := ca, val := cv } : Cm)) ?_ ?_ (cm_range TY.out.c) ?_); rfl; rfl)
              | (go_at_call 43; (with_reducible refine (HR _).mono ?_); rintro x w5 ⟨rfl, hb⟩; have TY := hide (TY.out.quiet hb); clear hb))
            clear c2 f2
            go_wp2_with (first
              | ((with_reducible refine wpList_load_cm (y := ({ zeroC with k := 2, c := cc, q := cq, key := ca, val := cv } : Cm)) ?_ ?_ (cm_range TY.out.c) ?_); rfl; rfl)
              | ((with_reducible refine wpList_store_rw (vs := Cm.l ({ zeroC with k := 2, c := cc, q := cq, key := ca, val := cv } : Cm)) ?_ ?_ (one_cm _) ?_ ?_ TY.out.z ?_); exact cm_info; rfl; rfl; rfl; intro w7 hn hg; have HF := hide (And.intro hn (TY.out.k.put hg TY.out.lr)); clear hn hg))
            exact bodyPost_ret (results_cm (c := ({ zeroC with k := 2, c := cc, q := cq, key := ca, val := cv } : Cm)) Tryz.results77 rfl HF.out.1) rfl (readG_of (v := ({ zeroC with k := 2, c := cc, q := cq, key := ca, val := cv } : Cm)) rfl HF.out.2 HGG.out trivial)
        · have te2 : (e5 == 0) = false := by simpa using he
          have HGG := hide (show Got (dCm zs i) e ({ zeroC with k := 2, c := cc, q := cq, key := ca, val := cv } : Cm) i5 e5 from got_cond HG he)
          have TY := hide TY.out.z
          clear HG he
          go_upto_region 16 with (fail)
          clear c2 f2
          go_wp2_with (first
            | ((with_reducible refine wpList_load_cm (y := ({ zeroC with k := 2, c := cc, q := cq, key := ca, val := cv } : Cm)) ?_ ?_ (cm_range TY.out.c) ?_); rfl; rfl)
            | ((with_reducible refine wpList_store_rw (vs := Cm.l ({ zeroC with k := 2, c := cc, q := cq, key := ca, val := cv } : Cm)) ?_ ?_ (one_cm _) ?_ ?_ TY.out.z ?_); exact cm_info; rfl; rfl; rfl; intro w7 hn hg; have HF := hide (And.intro hn (TY.out.k.put hg TY.out.lr)); clear hn hg))
          exact bodyPost_ret (results_cm (c := ({ zeroC with k := 2, c := cc, q := cq, key := ca, val := cv } : Cm)) Tryz.results77 rfl HF.out.1) rfl (readG_of (v := ({ zeroC with k := 2, c := cc, q := cq, key := ca, val := cv } : Cm)) rfl HF.out.2 HGG.out trivial)
      · have t2 : (k == 2) = false := by simpa using hk2
        by_cases hk4 : k = 4
        · subst hk4
          go_upto_region 10 with (fail)
          clear c0 t2
          have HN := hide (rtext_g ZR.out.k.r 64)
          go_upto_region 11 with (first
            | (go_at_call 121; (with_reducible refine HN.out.mono ?_); rintro x w3 ⟨co, i5, e5, rfl, hr, hg, hd, hp⟩; have ZR := hide (ZR.out.step hr hg); have G5 := hide hd; clear hr hg hd hp HN)
            | ((with_reducible refine wpList_store_rs (j := 5) (n := co) ?_ ?_ ?_ ZR.out.c ?_); exact (by decide : 5 < 7); rfl; rfl; intro w4 hn hg; have ZR := hide (ZR.out.put (cs' := rowC { zeroC with k := 4, c := cc, q := cq, key := ca, old := co }) hn hg); clear hn hg))
          try simp only [Act.put]
          have HN := hide (rtext_g ZR.out.k.r 64)
          go_upto_region 14 with (first
            | (go_at_call 121; (with_reducible refine HN.out.mono ?_); rintro x w3 ⟨cv, i6, e6, rfl, hr, hg, hd, hp⟩; have ZR := hide (ZR.out.step hr hg); have G6 := hide hd; clear hr hg hd hp HN)
            | ((with_reducible refine wpList_store_rs (j := 6) (n := cv) ?_ ?_ ?_ ZR.out.c ?_); exact (by decide : 6 < 7); rfl; rfl; intro w4 hn hg; have ZR := hide (ZR.out.put (cs' := rowC { zeroC with k := 4, c := cc, q := cq, key := ca, old := co, val := cv }) hn hg); clear hn hg))
          try simp only [Act.put]
          have TY := hide (show Ty w B g zs i e w4 h { zeroC with k := 4, c := cc, q := cq, key := ca, old := co, val := cv } i6 e6 from ⟨ZR.out, by unfold dCm0; exact G1.out.bnd (by rw [if_neg HK0.out]; exact G2.out.bnd (G3.out.bnd (G4.out.bnd (by rw [if_neg hk2, if_pos rfl]; exact G5.out.bnd (G6.out.bnd (Got.ok _ _ _))))))⟩)
          have HR := fun w => rright_cc ({ zeroC with k := 4, c := cc, q := cq, key := ca, old := co, val := cv } : Cm) w
          have HG := TY.out.g.chk rightC
          obtain ⟨c2, f2⟩ := TY.out.z.k.r.err2
          by_cases he : e6 = 0
          · subst he
            cases hq : rightC ({ zeroC with k := 4, c := cc, q := cq, key := ca, old := co, val := cv } : Cm)
            · simp only [hq, Bool.false_eq_true, if_false] at HR HG
              have HGG := hide (show Got (dCm zs i) e ({ zeroC with k := 4, c := cc, q := cq, key := ca, old := co, val := cv } : Cm) i6 4 from HG)
              have TY := hide TY.out.z
              clear HG hq
              go_upto_region 15 with (first
                | ((with_reducible refine wpList_load_cm (y := ({ zeroC with k := 4, c := cc, q := cq, key := ca, old := co, val := cv } : Cm)) ?_ ?_ (cm_range TY.out.c) ?_); rfl; rfl)
                | (go_at_call 43; (with_reducible refine (HR _).mono ?_); rintro x w5 ⟨rfl, hb⟩; have TY := hide (TY.out.quiet hb); clear hb))
              clear c2 f2
              obtain ⟨c2, f2⟩ := TY.out.k.r.err2
              have TY := hide TY.out.wrong
              go_upto_region 16 with (fail)
              clear c2 f2
              generalize w5.setCell _ _ = w6 at TY ⊢
              go_wp2_with (first
                | ((with_reducible refine wpList_load_cm (y := ({ zeroC with k := 4, c := cc, q := cq, key := ca, old := co, val := cv } : Cm)) ?_ ?_ (cm_range TY.out.c) ?_); rfl; rfl)
                | ((with_reducible refine wpList_store_rw (vs := Cm.l ({ zeroC with k := 4, c := cc, q := cq, key := ca, old := co, val := cv } : Cm)) ?_ ?_ (one_cm _) ?_ ?_ TY.out.z ?_); exact cm_info; rfl; rfl; rfl; intro w7 hn hg; have HF := hide (And.intro hn (TY.out.k.put hg TY.out.lr)); clear hn hg))
              exact bodyPost_ret (results_cm (c := ({ zeroC with k := 4, c := cc, q := cq, key := ca, old := co, val := cv } : Cm)) Tryz.results77 rfl HF.out.1) rfl (readG_of (v := ({ zeroC with k := 4, c := cc, q := cq, key := ca, old := co, val := cv } : Cm)) rfl HF.out.2 HGG.out trivial)
            · simp only [hq, if_true] at HR HG
              have HGG := hide (show Got (dCm zs i) e ({ zeroC with k := 4, c := cc, q := cq, key := ca, old := co, val := cv } : Cm) i6 0 from HG)
              have TY := hide TY.out.z
              clear HG hq
              go_upto_region 16 with (first
                | ((with_reducible refine wpList_load_cm (y := ({ zeroC with k := 4, c := cc, q := cq, key := ca, old := co, val := cv } : Cm)) ?_ ?_ (cm_range TY.out.c) ?_); rfl; rfl)
                | (go_at_call 43; (with_reducible refine (HR _).mono ?_); rintro x w5 ⟨rfl, hb⟩; have TY := hide (TY.out.quiet hb); clear hb))
              clear c2 f2
              go_wp2_with (first
                | ((with_reducible refine wpList_load_cm (y := ({ zeroC with k := 4, c := cc, q := cq, key := ca, old := co, val := cv } : Cm)) ?_ ?_ (cm_range TY.out.c) ?_); rfl; rfl)
                | ((with_reducible refine wpList_store_rw (vs := Cm.l ({ zeroC with k := 4, c := cc, q := cq, key := ca, old := co, val := cv } : Cm)) ?_ ?_ (one_cm _) ?_ ?_ TY.out.z ?_); exact cm_info; rfl; rfl; rfl; intro w7 hn hg; have HF := hide (And.intro hn (TY.out.k.put hg TY.out.lr)); clear hn hg))
              exact bodyPost_ret (results_cm (c := ({ zeroC with k := 4, c := cc, q := cq, key := ca, old := co, val := cv } : Cm)) Tryz.results77 rfl HF.out.1) rfl (readG_of (v := ({ zeroC with k := 4, c := cc, q := cq, key := ca, old := co, val := cv } : Cm)) rfl HF.out.2 HGG.out trivial)
          · have te2 : (e6 == 0) = false := by simpa using he
            have HGG := hide (show Got (dCm zs i) e ({ zeroC with k := 4, c := cc, q := cq, key := ca, old := co, val := cv } : Cm) i6 e6 from got_cond HG he)
            have TY := hide TY.out.z
            clear HG he
            go_upto_region 16 with (fail)
            clear c2 f2
            go_wp2_with (first
              | ((with_reducible refine wpList_load_cm (y := ({ zeroC with k := 4, c := cc, q := cq, key := ca, old := co, val := cv } : Cm)) ?_ ?_ (cm_range TY.out.c) ?_); rfl; rfl)
              | ((with_reducible refine wpList_store_rw (vs := Cm.l ({ zeroC with k := 4, c := cc, q := cq, key := ca, old := co, val := cv } : Cm)) ?_ ?_ (one_cm _) ?_ ?_ TY.out.z ?_); exact cm_info; rfl; rfl; rfl; intro w7 hn hg; have HF := hide (And.intro hn (TY.out.k.put hg TY.out.lr)); clear hn hg))
            exact bodyPost_ret (results_cm (c := ({ zeroC with k := 4, c := cc, q := cq, key := ca, old := co, val := cv } : Cm)) Tryz.results77 rfl HF.out.1) rfl (readG_of (v := ({ zeroC with k := 4, c := cc, q := cq, key := ca, old := co, val := cv } : Cm)) rfl HF.out.2 HGG.out trivial)
        · have t4 : (k == 4) = false := by simpa using hk4
          by_cases hk5 : k = 5
          · subst hk5
            go_upto_region 13 with (fail)
            clear c0 t2 t4
            have HN := hide (rtext_g ZR.out.k.r 16)
            go_upto_region 14 with (first
              | (go_at_call 121; (with_reducible refine HN.out.mono ?_); rintro x w3 ⟨cb, i5, e5, rfl, hr, hg, hd, hp⟩; have ZR := hide (ZR.out.step hr hg); have G5 := hide hd; clear hr hg hd hp HN)
              | ((with_reducible refine wpList_store_rs (j := 4) (n := cb) ?_ ?_ ?_ ZR.out.c ?_); exact (by decide : 4 < 7); rfl; rfl; intro w4 hn hg; have ZR := hide (ZR.out.put (cs' := rowC { zeroC with k := 5, c := cc, q := cq, key := ca, en := cb }) hn hg); clear hn hg))
            try simp only [Act.put]
            have TY := hide (show Ty w B g zs i e w4 h { zeroC with k := 5, c := cc, q := cq, key := ca, en := cb } i5 e5 from ⟨ZR.out, by unfold dCm0; exact G1.out.bnd (by rw [if_neg HK0.out]; exact G2.out.bnd (G3.out.bnd (G4.out.bnd (by rw [if_neg hk2, if_neg hk4, if_pos rfl]; exact G5.out.bnd (Got.ok _ _ _)))))⟩)
            have HR := fun w => rright_cc ({ zeroC with k := 5, c := cc, q := cq, key := ca, en := cb } : Cm) w
            have HG := TY.out.g.chk rightC
            obtain ⟨c2, f2⟩ := TY.out.z.k.r.err2
            by_cases he : e5 = 0
            · subst he
              cases hq : rightC ({ zeroC with k := 5, c := cc, q := cq, key := ca, en := cb } : Cm)
              · simp only [hq, Bool.false_eq_true, if_false] at HR HG
                have HGG := hide (show Got (dCm zs i) e ({ zeroC with k := 5, c := cc, q := cq, key := ca, en := cb } : Cm) i5 4 from HG)
                have TY := hide TY.out.z
                clear HG hq
                go_upto_region 15 with (first
                  | ((with_reducible refine wpList_load_cm (y := ({ zeroC with k := 5, c := cc, q := cq, key := ca, en := cb } : Cm)) ?_ ?_ (cm_range TY.out.c) ?_); rfl; rfl)
                  | (go_at_call 43; (with_reducible refine (HR _).mono ?_); rintro x w5 ⟨rfl, hb⟩; have TY := hide (TY.out.quiet hb); clear hb))
                clear c2 f2
                obtain ⟨c2, f2⟩ := TY.out.k.r.err2
                have TY := hide TY.out.wrong
                go_upto_region 16 with (fail)
                clear c2 f2
                generalize w5.setCell _ _ = w6 at TY ⊢
                go_wp2_with (first
                  | ((with_reducible refine wpList_load_cm (y := ({ zeroC with k := 5, c := cc, q := cq, key := ca, en := cb } : Cm)) ?_ ?_ (cm_range TY.out.c) ?_); rfl; rfl)
                  | ((with_reducible refine wpList_store_rw (vs := Cm.l ({ zeroC with k := 5, c := cc, q := cq, key := ca, en := cb } : Cm)) ?_ ?_ (one_cm _) ?_ ?_ TY.out.z ?_); exact cm_info; rfl; rfl; rfl; intro w7 hn hg; have HF := hide (And.intro hn (TY.out.k.put hg TY.out.lr)); clear hn hg))
                exact bodyPost_ret (results_cm (c := ({ zeroC with k := 5, c := cc, q := cq, key := ca, en := cb } : Cm)) Tryz.results77 rfl HF.out.1) rfl (readG_of (v := ({ zeroC with k := 5, c := cc, q := cq, key := ca, en := cb } : Cm)) rfl HF.out.2 HGG.out trivial)
              · simp only [hq, if_true] at HR HG
                have HGG := hide (show Got (dCm zs i) e ({ zeroC with k := 5, c := cc, q := cq, key := ca, en := cb } : Cm) i5 0 from HG)
                have TY := hide TY.out.z
                clear HG hq
                go_upto_region 16 with (first
                  | ((with_reducible refine wpList_load_cm (y := ({ zeroC with k := 5, c := cc, q := cq, key := ca, en := cb } : Cm)) ?_ ?_ (cm_range TY.out.c) ?_); rfl; rfl)
                  | (go_at_call 43; (with_reducible refine (HR _).mono ?_); rintro x w5 ⟨rfl, hb⟩; have TY := hide (TY.out.quiet hb); clear hb))
                clear c2 f2
                go_wp2_with (first
                  | ((with_reducible refine wpList_load_cm (y := ({ zeroC with k := 5, c := cc, q := cq, key := ca, en := cb } : Cm)) ?_ ?_ (cm_range TY.out.c) ?_); rfl; rfl)
                  | ((with_reducible refine wpList_store_rw (vs := Cm.l ({ zeroC with k := 5, c := cc, q := cq, key := ca, en := cb } : Cm)) ?_ ?_ (one_cm _) ?_ ?_ TY.out.z ?_); exact cm_info; rfl; rfl; rfl; intro w7 hn hg; have HF := hide (And.intro hn (TY.out.k.put hg TY.out.lr)); clear hn hg))
                exact bodyPost_ret (results_cm (c := ({ zeroC with k := 5, c := cc, q := cq, key := ca, en := cb } : Cm)) Tryz.results77 rfl HF.out.1) rfl (readG_of (v := ({ zeroC with k := 5, c := cc, q := cq, key := ca, en := cb } : Cm)) rfl HF.out.2 HGG.out trivial)
            · have te2 : (e5 == 0) = false := by simpa using he
              have HGG := hide (show Got (dCm zs i) e ({ zeroC with k := 5, c := cc, q := cq, key := ca, en := cb } : Cm) i5 e5 from got_cond HG he)
              have TY := hide TY.out.z
              clear HG he
              go_upto_region 16 with (fail)
              clear c2 f2
              go_wp2_with (first
                | ((with_reducible refine wpList_load_cm (y := ({ zeroC with k := 5, c := cc, q := cq, key := ca, en := cb } : Cm)) ?_ ?_ (cm_range TY.out.c) ?_); rfl; rfl)
                | ((with_reducible refine wpList_store_rw (vs := Cm.l ({ zeroC with k := 5, c := cc, q := cq, key := ca, en := cb } : Cm)) ?_ ?_ (one_cm _) ?_ ?_ TY.out.z ?_); exact cm_info; rfl; rfl; rfl; intro w7 hn hg; have HF := hide (And.intro hn (TY.out.k.put hg TY.out.lr)); clear hn hg))
              exact bodyPost_ret (results_cm (c := ({ zeroC with k := 5, c := cc, q := cq, key := ca, en := cb } : Cm)) Tryz.results77 rfl HF.out.1) rfl (readG_of (v := ({ zeroC with k := 5, c := cc, q := cq, key := ca, en := cb } : Cm)) rfl HF.out.2 HGG.out trivial)
          · have t5 : (k == 5) = false := by simpa using hk5
            have TY := hide (show Ty w B g zs i e w4 h { zeroC with k := k, c := cc, q := cq, key := ca } i4 e4 from ⟨ZR.out, by unfold dCm0; exact G1.out.bnd (by rw [if_neg HK0.out]; exact G2.out.bnd (G3.out.bnd (G4.out.bnd (by rw [if_neg hk2, if_neg hk4, if_neg hk5]; exact Got.ok _ _ _))))⟩)
            go_upto_region 14 with (fail)
            clear c0 t2 t4 t5
            have HR := fun w => rright_cc ({ zeroC with k := k, c := cc, q := cq, key := ca } : Cm) w
            have HG := TY.out.g.chk rightC
            obtain ⟨c2, f2⟩ := TY.out.z.k.r.err2
            by_cases he : e4 = 0
            · subst he
              cases hq : rightC ({ zeroC with k := k, c := cc, q := cq, key := ca } : Cm)
              · simp only [hq, Bool.false_eq_true, if_false] at HR HG
                have HGG := hide (show Got (dCm zs i) e ({ zeroC with k := k, c := cc, q := cq, key := ca } : Cm) i4 4 from HG)
                have TY := hide TY.out.z
                clear HG hq
                go_upto_region 15 with (first
                  | ((with_reducible refine wpList_load_cm (y := ({ zeroC with k := k, c := cc, q := cq, key := ca } : Cm)) ?_ ?_ (cm_range TY.out.c) ?_); rfl; rfl)
                  | (go_at_call 43; (with_reducible refine (HR _).mono ?_); rintro x w5 ⟨rfl, hb⟩; have TY := hide (TY.out.quiet hb); clear hb))
                clear c2 f2
                obtain ⟨c2, f2⟩ := TY.out.k.r.err2
                have TY := hide TY.out.wrong
                go_upto_region 16 with (fail)
                clear c2 f2
                generalize w5.setCell _ _ = w6 at TY ⊢
                go_wp2_with (first
                  | ((with_reducible refine wpList_load_cm (y := ({ zeroC with k := k, c := cc, q := cq, key := ca } : Cm)) ?_ ?_ (cm_range TY.out.c) ?_); rfl; rfl)
                  | ((with_reducible refine wpList_store_rw (vs := Cm.l ({ zeroC with k := k, c := cc, q := cq, key := ca } : Cm)) ?_ ?_ (one_cm _) ?_ ?_ TY.out.z ?_); exact cm_info; rfl; rfl; rfl; intro w7 hn hg; have HF := hide (And.intro hn (TY.out.k.put hg TY.out.lr)); clear hn hg))
                exact bodyPost_ret (results_cm (c := ({ zeroC with k := k, c := cc, q := cq, key := ca } : Cm)) Tryz.results77 rfl HF.out.1) rfl (readG_of (v := ({ zeroC with k := k, c := cc, q := cq, key := ca } : Cm)) rfl HF.out.2 HGG.out trivial)
              · simp only [hq, if_true] at HR HG
                have HGG := hide (show Got (dCm zs i) e ({ zeroC with k := k, c := cc, q := cq, key := ca } : Cm) i4 0 from HG)
                have TY := hide TY.out.z
                clear HG hq
                go_upto_region 16 with (first
                  | ((with_reducible refine wpList_load_cm (y := ({ zeroC with k := k, c := cc, q := cq, key := ca } : Cm)) ?_ ?_ (cm_range TY.out.c) ?_); rfl; rfl)
                  | (go_at_call 43; (with_reducible refine (HR _).mono ?_); rintro x w5 ⟨rfl, hb⟩; have TY := hide (TY.out.quiet hb); clear hb))
                clear c2 f2
                go_wp2_with (first
                  | ((with_reducible refine wpList_load_cm (y := ({ zeroC with k := k, c := cc, q := cq, key := ca } : Cm)) ?_ ?_ (cm_range TY.out.c) ?_); rfl; rfl)
                  | ((with_reducible refine wpList_store_rw (vs := Cm.l ({ zeroC with k := k, c := cc, q := cq, key := ca } : Cm)) ?_ ?_ (one_cm _) ?_ ?_ TY.out.z ?_); exact cm_info; rfl; rfl; rfl; intro w7 hn hg; have HF := hide (And.intro hn (TY.out.k.put hg TY.out.lr)); clear hn hg))
                exact bodyPost_ret (results_cm (c := ({ zeroC with k := k, c := cc, q := cq, key := ca } : Cm)) Tryz.results77 rfl HF.out.1) rfl (readG_of (v := ({ zeroC with k := k, c := cc, q := cq, key := ca } : Cm)) rfl HF.out.2 HGG.out trivial)
            · have te2 : (e4 == 0) = false := by simpa using he
              have HGG := hide (show Got (dCm zs i) e ({ zeroC with k := k, c := cc, q := cq, key := ca } : Cm) i4 e4 from got_cond HG he)
              have TY := hide TY.out.z
              clear HG he
              go_upto_region 16 with (fail)
              clear c2 f2
              go_wp2_with (first
                | ((with_reducible refine wpList_load_cm (y := ({ zeroC with k := k, c := cc, q := cq, key := ca } : Cm)) ?_ ?_ (cm_range TY.out.c) ?_); rfl; rfl)
                | ((with_reducible refine wpList_store_rw (vs := Cm.l ({ zeroC with k := k, c := cc, q := cq, key := ca } : Cm)) ?_ ?_ (one_cm _) ?_ ?_ TY.out.z ?_); exact cm_info; rfl; rfl; rfl; intro w7 hn hg; have HF := hide (And.intro hn (TY.out.k.put hg TY.out.lr)); clear hn hg))
              exact bodyPost_ret (results_cm (c := ({ zeroC with k := k, c := cc, q := cq, key := ca } : Cm)) Tryz.results77 rfl HF.out.1) rfl (readG_of (v := ({ zeroC with k := k, c := cc, q := cq, key := ca } : Cm)) rfl HF.out.2 HGG.out trivial)
  · have te : (e1 == 0) = false := by simpa using he1
    have TY := hide (show Ty w B g zs i e w2 h { zeroC with k := k } i1 e1 from ⟨ZR.out, by unfold dCm0; exact G1.out.bnd (got_wrong he1 _ _)⟩)
    clear ZR G1
    go_upto_region 14 with (fail)
    clear c0 c2 f2 te
    have HR := fun w => rright_cc ({ zeroC with k := k } : Cm) w
    have HG := TY.out.g.chk rightC
    obtain ⟨c2, f2⟩ := TY.out.z.k.r.err2
    have te2 : (e1 == 0) = false := by simpa using he1
    have HGG := hide (show Got (dCm zs i) e ({ zeroC with k := k } : Cm) i1 e1 from got_cond HG he1)
    have TY := hide TY.out.z
    clear HG
    go_upto_region 16 with (fail)
    clear c2 f2
    go_wp2_with (first
      | ((with_reducible refine wpList_load_cm (y := ({ zeroC with k := k } : Cm)) ?_ ?_ (cm_range TY.out.c) ?_); rfl; rfl)
      | ((with_reducible refine wpList_store_rw (vs := Cm.l ({ zeroC with k := k } : Cm)) ?_ ?_ (one_cm _) ?_ ?_ TY.out.z ?_); exact cm_info; rfl; rfl; rfl; intro w7 hn hg; have HF := hide (And.intro hn (TY.out.k.put hg TY.out.lr)); clear hn hg))
    exact bodyPost_ret (results_cm (c := ({ zeroC with k := k } : Cm)) Tryz.results77 rfl HF.out.1) rfl (readG_of (v := ({ zeroC with k := k } : Cm)) rfl HF.out.2 HGG.out trivial)
end Go.Proofs.YtiaegloipnhhdaaGreat
/- The document's GetCell. Conditions: the reader lies in memory as it must. -/
namespace Go.Proofs.YtiaegloipnhhdaaGreat
set_option maxRecDepth 100000
open Go.RowKit
set_option maxHeartbeats 32000000 in
theorem rgetcell_g {w : World} {B g i : Nat} {zs : List Int} {e : Int} (h : Rdr 120 w B g zs i e) :
    Calls Tryz.prog 39 #[.pointer (some ⟨g, 0, none⟩)] w (ReadG 120 w B g zs (fun x => .agg (clC x)) (dCl zs i) e zeroed) := by
  have S0 := hide ((Rg.start h).alloc (.cells (clC zeroCl) 38))
  have HA := hide (CeAt.new (x := zeroCl) rfl w 38)
  have hlt := h.lt
  have HNE := hide (show w.heap.size ≠ g by omega)
  clear h hlt
  go_enter Tryz.func39, Tryz.ntmps39
  go_upto_region 1 with (fail)
  rw [zero_cl]
  generalize w.alloc (.cells (clC zeroCl) 38) = w0 at S0 HA ⊢
  have HN := hide (rnum_g S0.out.r)
  go_upto_region 2 with (first
    | (go_at_call 75; (with_reducible refine HN.out.mono ?_); rintro x w1 ⟨st, i1, e1, rfl, hr, hg, hd, hp⟩; have S0 := hide (S0.out.step hr hg); have HA := hide (HA.out.other hg HNE.out); have G1 := hide hd; clear hr hg hd hp HN)
    | ((with_reducible refine wpList_build_one (i := 0) (u := .int .i64 st) ?_ ?_ (fill_c0 st _) ?_); rfl; rfl)
    | ((with_reducible refine wpList_store_new (vs := clC { zeroCl with st := st }) ?_ ?_ (cl_all _) ?_ ?_ ?_); exact ce_info; rfl; rfl; rfl))
  try simp only [Act.put]
  have ZX := hide (Zx.start (x := { zeroCl with st := st }) S0.out HA.out (Nat.le_refl _) rfl)
  clear S0 HA HNE
  generalize w1.alloc (.cells (clC _) 38) = w2 at ZX ⊢
  generalize w1.heap.size = h at ZX ⊢
  have HN := hide (rballot_g ZX.out.k.r)
  go_upto_region 3 with (first
    | (go_at_call 76; (with_reducible refine HN.out.mono ?_); rintro x w3 ⟨p, i2, e2, rfl, hr, hg, hd, hp⟩; have ZX := hide (ZX.out.step hr hg); have G2 := hide hd; clear hr hg hd hp HN)
    | ((with_reducible refine wpList_store_xp (p := p) ?_ ?_ ZX.out.c ?_); rfl; rfl; intro w4 hn hg; have ZX := hide (ZX.out.put hn hg); clear hn hg))
  try simp only [Act.put]
  have c0 : w4.cell? ⟨h, 0, none⟩ = some (.int .i64 st) := ZX.out.c.st
  obtain ⟨c2, f2⟩ := ZX.out.k.r.err2
  by_cases h0 : st = 0
  · subst h0
    go_upto_region 8 with (fail)
    clear c0 c2 f2
    have HG := hide (show Got (dCl0 zs i) e (⟨0, p, (0, 0), zeroC, zero8, false⟩ : Cl) i2 e2 from G1.out.bnd (G2.out.bnd (by rw [if_pos rfl]; exact Got.ok _ _ _)))
    have ZX := hide (show Zx 120 w w4 B g zs i2 e2 w.heap.size h (⟨0, p, (0, 0), zeroC, zero8, false⟩ : Cl) from ZX.out)
    clear G1 G2
    obtain ⟨x, hx⟩ : ∃ x, (⟨0, p, (0, 0), zeroC, zero8, false⟩ : Cl) = x := ⟨_, rfl⟩
    rw [hx] at HG ZX
    clear hx
    have h8 := ZX.out.c.l
    have HR := fun w => rrightcell_any x h8 w
    obtain ⟨c2, f2⟩ := ZX.out.k.r.err2
    have hG := HG.out.chk rightCl
    clear HG
    by_cases he : e2 = 0
    · subst he
      cases hq : rightCl x
      · simp only [hq, Bool.false_eq_true, if_false] at HR hG
        have HGG := hide ((show Got (dCl zs i) e x i2 4 from hG).swap (u := zeroCl) (fun h => absurd h (by decide)))
        clear hG hq
        go_upto_region 9 with (first
          | ((with_reducible refine wpList_load_ce h8 ?_ ?_ ZX.out.c.all ?_); rfl; rfl)
          | (go_at_call 17; (with_reducible refine (HR _).mono ?_); rintro y w5 ⟨rfl, hb⟩; have ZX := hide (ZX.out.quiet hb); clear hb))
        clear c2 f2
        obtain ⟨c2, f2⟩ := ZX.out.k.r.err2
        have ZX := hide ZX.out.wrong
        go_upto_region 10 with (fail)
        clear c2 f2
        generalize w5.setCell _ _ = w7 at ZX ⊢
        obtain ⟨c2, f2⟩ := ZX.out.k.r.err2
        go_wp2_with (first
          | ((with_reducible refine wpList_build_no ?_ (fill_cz _) ?_); rfl)
          | ((with_reducible refine wpList_store_xw (y := zeroCl) rfl ?_ ?_ ZX.out.z ?_); rfl; rfl; intro w6 hn hg; have HF := hide (And.intro hn (ZX.out.k.put hg ZX.out.lr)); clear hn hg))
        exact bodyPost_ret (results_ce Tryz.results39 rfl HF.out.1) rfl (readG_of rfl HF.out.2 HGG.out ⟨rfl, fun _ => rfl⟩)
      · simp only [hq, if_true] at HR hG
        have HGG := hide (show Got (dCl zs i) e x i2 0 from hG)
        clear hG hq
        go_upto_region 10 with (first
          | ((with_reducible refine wpList_load_ce h8 ?_ ?_ ZX.out.c.all ?_); rfl; rfl)
          | (go_at_call 17; (with_reducible refine (HR _).mono ?_); rintro y w5 ⟨rfl, hb⟩; have ZX := hide (ZX.out.quiet hb); clear hb))
        clear c2 f2
        obtain ⟨c2, f2⟩ := ZX.out.k.r.err2
        go_wp2_with (first
          | ((with_reducible refine wpList_load_ce h8 ?_ ?_ ZX.out.c.all ?_); rfl; rfl)
          | ((with_reducible refine wpList_store_xw (y := x) h8 ?_ ?_ ZX.out.z ?_); rfl; rfl; intro w6 hn hg; have HF := hide (And.intro hn (ZX.out.k.put hg ZX.out.lr)); clear hn hg))
        exact bodyPost_ret (results_ce Tryz.results39 rfl HF.out.1) rfl (readG_of rfl HF.out.2 HGG.out ⟨h8, fun h => absurd rfl h⟩)
    · have te : (e2 == 0) = false := by simpa using he
      have te2 : (e2 != 0) = true := by simpa using he
      have HGG := hide ((got_cond hG he).swap (u := zeroCl) (fun h => absurd h he))
      clear hG he
      go_wp2_with (first
        | ((with_reducible refine wpList_build_no ?_ (fill_cz _) ?_); rfl)
        | ((with_reducible refine wpList_store_xw (y := zeroCl) rfl ?_ ?_ ZX.out.z ?_); rfl; rfl; intro w6 hn hg; have HF := hide (And.intro hn (ZX.out.k.put hg ZX.out.lr)); clear hn hg))
      exact bodyPost_ret (results_ce Tryz.results39 rfl HF.out.1) rfl (readG_of rfl HF.out.2 HGG.out ⟨rfl, fun _ => rfl⟩)
  · have t0 : (st != 0) = true := by simpa using h0
    by_cases he2 : e2 = 0
    · subst he2
      have HS := hide h0
      clear h0
      go_upto_region 4 with (fail)
      clear c0 c2 f2 t0
      have HN := hide (rballot_g ZX.out.k.r)
      go_upto_region 5 with (first
        | (go_at_call 76; (with_reducible refine HN.out.mono ?_); rintro x w3 ⟨v, i3, e3, rfl, hr, hg, hd, hp⟩; have ZX := hide (ZX.out.step hr hg); have G3 := hide hd; clear hr hg hd hp HN)
        | ((with_reducible refine wpList_store_xv (p := v) ?_ ?_ ZX.out.c ?_); rfl; rfl; intro w4 hn hg; have ZX := hide (ZX.out.put hn hg); clear hn hg))
      try simp only [Act.put]
      have HN := hide (rcmd_g ZX.out.k.r)
      go_upto_region 6 with (first
        | (go_at_call 77; (with_reducible refine HN.out.mono ?_); rintro x w3 ⟨c, i4, e4, rfl, hr, hg, hd, hp⟩; have ZX := hide (ZX.out.step hr hg); have G4 := hide hd; clear hr hg hd hp HN)
        | ((with_reducible refine wpList_store_xc (y := c) ?_ ?_ ZX.out.c ?_); rfl; rfl; intro w4 hn hg; have ZX := hide (ZX.out.put hn hg); clear hn hg))
      try simp only [Act.put]
      have HN := hide (rattr_g ZX.out.k.r)
      go_upto_region 7 with (first
        | (go_at_call 78; (with_reducible refine HN.out.mono ?_); rintro x w3 ⟨a, i5, e5, rfl, hr, hg, hd, hp⟩; have ZX := hide (ZX.out.step hr hg); have G5 := hide hd; have HP := hide hp; clear hr hg hd hp HN)
        | ((with_reducible refine wpList_store_xa (y := a) HP.out ?_ ?_ ZX.out.c ?_); rfl; rfl; intro w4 hn hg; have ZX := hide (ZX.out.put hn hg); clear hn hg))
      try simp only [Act.put]
      have HN := hide (rflag_g ZX.out.k.r)
      go_upto_region 8 with (first
        | (go_at_call 79; (with_reducible refine HN.out.mono ?_); rintro x w3 ⟨s, i6, e6, rfl, hr, hg, hd, hp⟩; have ZX := hide (ZX.out.step hr hg); have G6 := hide hd; clear hr hg hd hp HN)
        | ((with_reducible refine wpList_store_xs (s := s) ?_ ?_ ZX.out.c ?_); rfl; rfl; intro w4 hn hg; have ZX := hide (ZX.out.put hn hg); clear hn hg))
      try simp only [Act.put]
      have HG := hide (show Got (dCl0 zs i) e (⟨st, p, v, c, a, s⟩ : Cl) i6 e6 from G1.out.bnd (G2.out.bnd (by rw [if_neg HS.out]; exact G3.out.bnd (G4.out.bnd (G5.out.bnd (G6.out.bnd (Got.ok _ _ _)))))))
      have ZX := hide (show Zx 120 w w4 B g zs i6 e6 w.heap.size h (⟨st, p, v, c, a, s⟩ : Cl) from ZX.out)
      clear G1 G2 G3 G4 G5 G6
      obtain ⟨x, hx⟩ : ∃ x, (⟨st, p, v, c, a, s⟩ : Cl) = x := ⟨_, rfl⟩
      rw [hx] at HG ZX
      clear hx
      have h8 := ZX.out.c.l
      have HR := fun w => rrightcell_any x h8 w
      obtain ⟨c2, f2⟩ := ZX.out.k.r.err2
      have hG := HG.out.chk rightCl
      clear HG
      by_cases he : e6 = 0
      · subst he
        cases hq : rightCl x
        · simp only [hq, Bool.false_eq_true, if_false] at HR hG
          have HGG := hide ((show Got (dCl zs i) e x i6 4 from hG).swap (u := zeroCl) (fun h => absurd h (by decide)))
          clear hG hq
          go_upto_region 9 with (first
            | ((with_reducible refine wpList_load_ce h8 ?_ ?_ ZX.out.c.all ?_); rfl; rfl)
            | (go_at_call 17; (with_reducible refine (HR _).mono ?_); rintro y w5 ⟨rfl, hb⟩; have ZX := hide (ZX.out.quiet hb); clear hb))
          clear c2 f2
          obtain ⟨c2, f2⟩ := ZX.out.k.r.err2
          have ZX := hide ZX.out.wrong
          go_upto_region 10 with (fail)
          clear c2 f2
          generalize w5.setCell _ _ = w7 at ZX ⊢
          obtain ⟨c2, f2⟩ := ZX.out.k.r.err2
          go_wp2_with (first
            | ((with_reducible refine wpList_build_no ?_ (fill_cz _) ?_); rfl)
            | ((with_reducible refine wpList_store_xw (y := zeroCl) rfl ?_ ?_ ZX.out.z ?_); rfl; rfl; intro w6 hn hg; have HF := hide (And.intro hn (ZX.out.k.put hg ZX.out.lr)); clear hn hg))
          exact bodyPost_ret (results_ce Tryz.results39 rfl HF.out.1) rfl (readG_of rfl HF.out.2 HGG.out ⟨rfl, fun _ => rfl⟩)
        · simp only [hq, if_true] at HR hG
          have HGG := hide (show Got (dCl zs i) e x i6 0 from hG)
          clear hG hq
          go_upto_region 10 with (first
            | ((with_reducible refine wpList_load_ce h8 ?_ ?_ ZX.out.c.all ?_); rfl; rfl)
            | (go_at_call 17; (with_reducible refine (HR _).mono ?_); rintro y w5 ⟨rfl, hb⟩; have ZX := hide (ZX.out.quiet hb); clear hb))
          clear c2 f2
          obtain ⟨c2, f2⟩ := ZX.out.k.r.err2
          go_wp2_with (first
            | ((with_reducible refine wpList_load_ce h8 ?_ ?_ ZX.out.c.all ?_); rfl; rfl)
            | ((with_reducible refine wpList_store_xw (y := x) h8 ?_ ?_ ZX.out.z ?_); rfl; rfl; intro w6 hn hg; have HF := hide (And.intro hn (ZX.out.k.put hg ZX.out.lr)); clear hn hg))
          exact bodyPost_ret (results_ce Tryz.results39 rfl HF.out.1) rfl (readG_of rfl HF.out.2 HGG.out ⟨h8, fun h => absurd rfl h⟩)
      · have te : (e6 == 0) = false := by simpa using he
        have te2 : (e6 != 0) = true := by simpa using he
        have HGG := hide ((got_cond hG he).swap (u := zeroCl) (fun h => absurd h he))
        clear hG he
        go_wp2_with (first
          | ((with_reducible refine wpList_build_no ?_ (fill_cz _) ?_); rfl)
          | ((with_reducible refine wpList_store_xw (y := zeroCl) rfl ?_ ?_ ZX.out.z ?_); rfl; rfl; intro w6 hn hg; have HF := hide (And.intro hn (ZX.out.k.put hg ZX.out.lr)); clear hn hg))
        exact bodyPost_ret (results_ce Tryz.results39 rfl HF.out.1) rfl (readG_of rfl HF.out.2 HGG.out ⟨rfl, fun _ => rfl⟩)
    · have te : (e2 == 0) = false := by simpa using he2
      go_upto_region 8 with (fail)
      clear c0 c2 f2 t0 te
      have HG := hide (show Got (dCl0 zs i) e ({ { zeroCl with st := st } with p := p } : Cl) i2 e2 from G1.out.bnd (G2.out.bnd (got_wrong he2 _ _)))
      clear G1 G2
      have te : (e2 == 0) = false := by simpa using he2
      have te2 : (e2 != 0) = true := by simpa using he2
      have HGG := hide ((got_cond (HG.out.chk rightCl) he2).swap (u := zeroCl) (fun h => absurd h he2))
      obtain ⟨c2, f2⟩ := ZX.out.k.r.err2
      clear HG he2
      go_wp2_with (first
        | ((with_reducible refine wpList_build_no ?_ (fill_cz _) ?_); rfl)
        | ((with_reducible refine wpList_store_xw (y := zeroCl) rfl ?_ ?_ ZX.out.z ?_); rfl; rfl; intro w6 hn hg; have HF := hide (And.intro hn (ZX.out.k.put hg ZX.out.lr)); clear hn hg))
      exact bodyPost_ret (results_ce Tryz.results39 rfl HF.out.1) rfl (readG_of rfl HF.out.2 HGG.out ⟨rfl, fun _ => rfl⟩)
end Go.Proofs.YtiaegloipnhhdaaGreat
