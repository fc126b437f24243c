/- The document's GetCell. Conditions: the reader lies in memory as it must. -/
import Derived.Test.YtlnpfaoeockoiaaWzu
import Derived.Test.YtlnpfaoeockoiaaWi
namespace Go.Proofs.Ytlnpfaoeockoiaa
set_option maxRecDepth 100000
open Go.RowKit
set_option maxHeartbeats 32000000 in
theorem rgetcell_g {w : World} {B g i : Nat} {zs : List Int} {e : Int} (h : Rdr 59 w B g zs i e) :
    Calls Try.prog 26 #[.pointer (some ⟨g, 0, none⟩)] w (ReadG 59 w B g zs (fun x => .agg (clC x)) (dCl zs i) e zeroed) := by
  have S0 := hide ((Rg.start h).alloc (.cells (clC zeroCl) 35))
  have HA := hide (CeAt.new (x := zeroCl) rfl w 35)
  have hlt := h.lt
  have HNE := hide (show w.heap.size ≠ g by omega)
  clear h hlt
  go_enter Try.func26, Try.ntmps26
  go_upto_region 1 with (fail)
  rw [zero_cl]
  generalize w.alloc (.cells (clC zeroCl) 35) = w0 at S0 HA ⊢
  have HN := hide (rnum_g S0.out.r)
  go_upto_region 2 with (first
    | (go_at_call 61; (with_reducible refine HN.out.mono ?_); rintro x w1 ⟨st, i1, e1, rfl, hr, hg, hd, hp⟩; have S0 := hide (S0.out.step hr hg); have HA := hide (HA.out.other hg HNE.out); have G1 := hide hd; clear hr hg hd hp HN)
    | ((with_reducible refine wpList_build_one (i := 0) (u := .int .i64 st) ?_ ?_ (fill_c0 st _) ?_); rfl; rfl)
    | ((with_reducible refine wpList_store_new (vs := clC { zeroCl with st := st }) ?_ ?_ (cl_all _) ?_ ?_ ?_); exact ce_info; rfl; rfl; rfl))
  try simp only [Act.put]
  have ZX := hide (Zx.start (x := { zeroCl with st := st }) S0.out HA.out (Nat.le_refl _) rfl)
  clear S0 HA HNE
  generalize w1.alloc (.cells (clC _) 35) = w2 at ZX ⊢
  generalize w1.heap.size = h at ZX ⊢
  have HN := hide (rballot_g ZX.out.k.r)
  go_upto_region 3 with (first
    | (go_at_call 63; (with_reducible refine HN.out.mono ?_); rintro x w3 ⟨p, i2, e2, rfl, hr, hg, hd, hp⟩; have ZX := hide (ZX.out.step hr hg); have G2 := hide hd; clear hr hg hd hp HN)
    | ((with_reducible refine wpList_store_xp (p := p) ?_ ?_ ZX.out.c ?_); rfl; rfl; intro w4 hn hg; have ZX := hide (ZX.out.put hn hg); clear hn hg))
  try simp only [Act.put]
  have c0 : w4.cell? ⟨h, 0, none⟩ = some (.int .i64 st) := ZX.out.c.st
  obtain ⟨c2, f2⟩ := ZX.out.k.r.err2
  by_cases h0 : st = 0
  · subst h0
    go_upto_region 8 with (fail)
    clear c0 c2 f2
    have HG := hide (show Got (dCl0 zs i) e (⟨0, p, (0, 0), zeroC, zero8, false⟩ : Cl) i2 e2 from G1.out.bnd (G2.out.bnd (by rw [if_pos rfl]; exact Got.ok _ _ _)))
    have ZX := hide (show Zx 59 w w4 B g zs i2 e2 w.heap.size h (⟨0, p, (0, 0), zeroC, zero8, false⟩ : Cl) from ZX.out)
    clear G1 G2
    obtain ⟨x, hx⟩ : ∃ x, (⟨0, p, (0, 0), zeroC, zero8, false⟩ : Cl) = x := ⟨_, rfl⟩
    rw [hx] at HG ZX
    clear hx
    have h8 := ZX.out.c.l
    have HR := fun w => rrightcell_any x h8 w
    obtain ⟨c2, f2⟩ := ZX.out.k.r.err2
    have hG := HG.out.chk rightCl
    clear HG
    by_cases he : e2 = 0
    · subst he
      cases hq : rightCl x
      · simp only [hq, Bool.false_eq_true, if_false] at HR hG
        have HGG := hide ((show Got (dCl zs i) e x i2 4 from hG).swap (u := zeroCl) (fun h => absurd h (by decide)))
        clear hG hq
        go_upto_region 9 with (first
          | ((with_reducible refine wpList_load_ce h8 ?_ ?_ ZX.out.c.all ?_); rfl; rfl)
          | (go_at_call 13; (with_reducible refine (HR _).mono ?_); rintro y w5 ⟨rfl, hb⟩; have ZX := hide (ZX.out.quiet hb); clear hb))
        clear c2 f2
        obtain ⟨c2, f2⟩ := ZX.out.k.r.err2
        have ZX := hide ZX.out.wrong
        go_upto_region 10 with (fail)
        clear c2 f2
        generalize w5.setCell _ _ = w7 at ZX ⊢
        obtain ⟨c2, f2⟩ := ZX.out.k.r.err2
        go_wp2_with (first
          | ((with_reducible refine wpList_build_no ?_ (fill_cz _) ?_); rfl)
          | ((with_reducible refine wpList_store_xw (y := zeroCl) rfl ?_ ?_ ZX.out.z ?_); rfl; rfl; intro w6 hn hg; have HF := hide (And.intro hn (ZX.out.k.put hg ZX.out.lr)); clear hn hg))
        exact bodyPost_ret (results_ce Try.results26 rfl HF.out.1) rfl (readG_of rfl HF.out.2 HGG.out ⟨rfl, fun _ => rfl⟩)
      · simp only [hq, if_true] at HR hG
        have HGG := hide (show Got (dCl zs i) e x i2 0 from hG)
        clear hG hq
        go_upto_region 10 with (first
          | ((with_reducible refine wpList_load_ce h8 ?_ ?_ ZX.out.c.all ?_); rfl; rfl)
          | (go_at_call 13; (with_reducible refine (HR _).mono ?_); rintro y w5 ⟨rfl, hb⟩; have ZX := hide (ZX.out.quiet hb); clear hb))
        clear c2 f2
        obtain ⟨c2, f2⟩ := ZX.out.k.r.err2
        go_wp2_with (first
          | ((with_reducible refine wpList_load_ce h8 ?_ ?_ ZX.out.c.all ?_); rfl; rfl)
          | ((with_reducible refine wpList_store_xw (y := x) h8 ?_ ?_ ZX.out.z ?_); rfl; rfl; intro w6 hn hg; have HF := hide (And.intro hn (ZX.out.k.put hg ZX.out.lr)); clear hn hg))
        exact bodyPost_ret (results_ce Try.results26 rfl HF.out.1) rfl (readG_of rfl HF.out.2 HGG.out ⟨h8, fun h => absurd rfl h⟩)
    · have te : (e2 == 0) = false := by simpa using he
      have te2 : (e2 != 0) = true := by simpa using he
      have HGG := hide ((got_cond hG he).swap (u := zeroCl) (fun h => absurd h he))
      clear hG he
      go_wp2_with (first
        | ((with_reducible refine wpList_build_no ?_ (fill_cz _) ?_); rfl)
        | ((with_reducible refine wpList_store_xw (y := zeroCl) rfl ?_ ?_ ZX.out.z ?_); rfl; rfl; intro w6 hn hg; have HF := hide (And.intro hn (ZX.out.k.put hg ZX.out.lr)); clear hn hg))
      exact bodyPost_ret (results_ce Try.results26 rfl HF.out.1) rfl (readG_of rfl HF.out.2 HGG.out ⟨rfl, fun _ => rfl⟩)
  · have t0 : (st != 0) = true := by simpa using h0
    by_cases he2 : e2 = 0
    · subst he2
      have HS := hide h0
      clear h0
      go_upto_region 4 with (fail)
      clear c0 c2 f2 t0
      have HN := hide (rballot_g ZX.out.k.r)
      go_upto_region 5 with (first
        | (go_at_call 63; (with_reducible refine HN.out.mono ?_); rintro x w3 ⟨v, i3, e3, rfl, hr, hg, hd, hp⟩; have ZX := hide (ZX.out.step hr hg); have G3 := hide hd; clear hr hg hd hp HN)
        | ((with_reducible refine wpList_store_xv (p := v) ?_ ?_ ZX.out.c ?_); rfl; rfl; intro w4 hn hg; have ZX := hide (ZX.out.put hn hg); clear hn hg))
      try simp only [Act.put]
      have HN := hide (rcmd_g ZX.out.k.r)
      go_upto_region 6 with (first
        | (go_at_call 64; (with_reducible refine HN.out.mono ?_); rintro x w3 ⟨c, i4, e4, rfl, hr, hg, hd, hp⟩; have ZX := hide (ZX.out.step hr hg); have G4 := hide hd; clear hr hg hd hp HN)
        | ((with_reducible refine wpList_store_xc (y := c) ?_ ?_ ZX.out.c ?_); rfl; rfl; intro w4 hn hg; have ZX := hide (ZX.out.put hn hg); clear hn hg))
      try simp only [Act.put]
      have HN := hide (rattr_g ZX.out.k.r)
      go_upto_region 7 with (first
        | (go_at_call 65; (with_reducible refine HN.out.mono ?_); rintro x w3 ⟨a, i5, e5, rfl, hr, hg, hd, hp⟩; have ZX := hide (ZX.out.step hr hg); have G5 := hide hd; have HP := hide hp; clear hr hg hd hp HN)
        | ((with_reducible refine wpList_store_xa (y := a) HP.out ?_ ?_ ZX.out.c ?_); rfl; rfl; intro w4 hn hg; have ZX := hide (ZX.out.put hn hg); clear hn hg))
      try simp only [Act.put]
      have HN := hide (rflag_g ZX.out.k.r)
      go_upto_region 8 with (first
        | (go_at_call 71; (with_reducible refine HN.out.mono ?_); rintro x w3 ⟨s, i6, e6, rfl, hr, hg, hd, hp⟩; have ZX := hide (ZX.out.step hr hg); have G6 := hide hd; clear hr hg hd hp HN)
        | ((with_reducible refine wpList_store_xs (s := s) ?_ ?_ ZX.out.c ?_); rfl; rfl; intro w4 hn hg; have ZX := hide (ZX.out.put hn hg); clear hn hg))
      try simp only [Act.put]
      have HG := hide (show Got (dCl0 zs i) e (⟨st, p, v, c, a, s⟩ : Cl) i6 e6 from G1.out.bnd (G2.out.bnd (by rw [if_neg HS.out]; exact G3.out.bnd (G4.out.bnd (G5.out.bnd (G6.out.bnd (Got.ok _ _ _)))))))
      have ZX := hide (show Zx 59 w w4 B g zs i6 e6 w.heap.size h (⟨st, p, v, c, a, s⟩ : Cl) from ZX.out)
      clear G1 G2 G3 G4 G5 G6
      obtain ⟨x, hx⟩ : ∃ x, (⟨st, p, v, c, a, s⟩ : Cl) = x := ⟨_, rfl⟩
      rw [hx] at HG ZX
      clear hx
      have h8 := ZX.out.c.l
      have HR := fun w => rrightcell_any x h8 w
      obtain ⟨c2, f2⟩ := ZX.out.k.r.err2
      have hG := HG.out.chk rightCl
      clear HG
      by_cases he : e6 = 0
      · subst he
        cases hq : rightCl x
        · simp only [hq, Bool.false_eq_true, if_false] at HR hG
          have HGG := hide ((show Got (dCl zs i) e x i6 4 from hG).swap (u := zeroCl) (fun h => absurd h (by decide)))
          clear hG hq
          go_upto_region 9 with (first
            | ((with_reducible refine wpList_load_ce h8 ?_ ?_ ZX.out.c.all ?_); rfl; rfl)
            | (go_at_call 13; (with_reducible refine (HR _).mono ?_); rintro y w5 ⟨rfl, hb⟩; have ZX := hide (ZX.out.quiet hb); clear hb))
          clear c2 f2
          obtain ⟨c2, f2⟩ := ZX.out.k.r.err2
          have ZX := hide ZX.out.wrong
          go_upto_region 10 with (fail)
          clear c2 f2
          generalize w5.setCell _ _ = w7 at ZX ⊢
          obtain ⟨c2, f2⟩ := ZX.out.k.r.err2
          go_wp2_with (first
            | ((with_reducible refine wpList_build_no ?_ (fill_cz _) ?_); rfl)
            | ((with_reducible refine wpList_store_xw (y := zeroCl) rfl ?_ ?_ ZX.out.z ?_); rfl; rfl; intro w6 hn hg; have HF := hide (And.intro hn (ZX.out.k.put hg ZX.out.lr)); clear hn hg))
          exact bodyPost_ret (results_ce Try.results26 rfl HF.out.1) rfl (readG_of rfl HF.out.2 HGG.out ⟨rfl, fun _ => rfl⟩)
        · simp only [hq, if_true] at HR hG
          have HGG := hide (show Got (dCl zs i) e x i6 0 from hG)
          clear hG hq
          go_upto_region 10 with (first
            | ((with_reducible refine wpList_load_ce h8 ?_ ?_ ZX.out.c.all ?_); rfl; rfl)
            | (go_at_call 13; (with_reducible refine (HR _).mono ?_); rintro y w5 ⟨rfl, hb⟩; have ZX := hide (ZX.out.quiet hb); clear hb))
          clear c2 f2
          obtain ⟨c2, f2⟩ := ZX.out.k.r.err2
          go_wp2_with (first
            | ((with_reducible refine wpList_load_ce h8 ?_ ?_ ZX.out.c.all ?_); rfl; rfl)
            | ((with_reducible refine wpList_store_xw (y := x) h8 ?_ ?_ ZX.out.z ?_); rfl; rfl; intro w6 hn hg; have HF := hide (And.intro hn (ZX.out.k.put hg ZX.out.lr)); clear hn hg))
          exact bodyPost_ret (results_ce Try.results26 rfl HF.out.1) rfl (readG_of rfl HF.out.2 HGG.out ⟨h8, fun h => absurd rfl h⟩)
      · have te : (e6 == 0) = false := by simpa using he
        have te2 : (e6 != 0) = true := by simpa using he
        have HGG := hide ((got_cond hG he).swap (u := zeroCl) (fun h => absurd h he))
        clear hG he
        go_wp2_with (first
          | ((with_reducible refine wpList_build_no ?_ (fill_cz _) ?_); rfl)
          | ((with_reducible refine wpList_store_xw (y := zeroCl) rfl ?_ ?_ ZX.out.z ?_); rfl; rfl; intro w6 hn hg; have HF := hide (And.intro hn (ZX.out.k.put hg ZX.out.lr)); clear hn hg))
        exact bodyPost_ret (results_ce Try.results26 rfl HF.out.1) rfl (readG_of rfl HF.out.2 HGG.out ⟨rfl, fun _ => rfl⟩)
    · have te : (e2 == 0) = false := by simpa using he2
      go_upto_region 8 with (fail)
      clear c0 c2 f2 t0 te
      have HG := hide (show Got (dCl0 zs i) e ({ { zeroCl with st := st } with p := p } : Cl) i2 e2 from G1.out.bnd (G2.out.bnd (got_wrong he2 _ _)))
      clear G1 G2
      have te : (e2 == 0) = false := by simpa using he2
      have te2 : (e2 != 0) = true := by simpa using he2
      have HGG := hide ((got_cond (HG.out.chk rightCl) he2).swap (u := zeroCl) (fun h => absurd h he2))
      obtain ⟨c2, f2⟩ := ZX.out.k.r.err2
      clear HG he2
      go_wp2_with (first
        | ((with_reducible refine wpList_build_no ?_ (fill_cz _) ?_); rfl)
        | ((with_reducible refine wpList_store_xw (y := zeroCl) rfl ?_ ?_ ZX.out.z ?_); rfl; rfl; intro w6 hn hg; have HF := hide (And.intro hn (ZX.out.k.put hg ZX.out.lr)); clear hn hg))
      exact bodyPost_ret (results_ce Try.results26 rfl HF.out.1) rfl (readG_of rfl HF.out.2 HGG.out ⟨rfl, fun _ => rfl⟩)
end Go.Proofs.Ytlnpfaoeockoiaa
