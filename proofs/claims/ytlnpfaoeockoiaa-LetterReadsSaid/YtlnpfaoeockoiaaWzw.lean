/- The document's GetLetter. Conditions: the bytes lie, their number has room. -/
import Derived.Test.YtlnpfaoeockoiaaWzv
import Derived.Test.YtlnpfaoeockoiaaWrv
namespace Go.Proofs.Ytlnpfaoeockoiaa
set_option maxRecDepth 100000
open Go.RowKit
theorem tail_kind {zs : List Int} {k f t : Int} {i3 i' : Nat} {e3 e' : Int} {m : Lt} (HK : Got (dKind zs 0) 0 (k, f, t) i3 e3) (h : Got (dRest k f t zs i3) e3 m i' e') : Got (dLt0 zs 0) 0 m i' e' := by
  rw [dLt0_eq]
  exact HK.bnd h
set_option maxHeartbeats 64000000 in
theorem rgetlt_any (A : Option Addr) (n c : Nat) (zs : List Int) (w : World) (hn : zs.length = n) (hz : Lies w A zs) (ho : Octets zs) (hc : n ≤ c) (ln : n ≤ 140737488355328) :
    Calls Try.prog 22 #[.slice A n c] w (GetsLt w zs) := by
  have HL := hide (LAt.new wf_zeroLt w 37)
  have HB := hide ((Below.refl w.heap.size w).alloc (Nat.le_refl _) (.cells (ltC zeroLt) 37))
  have HC := hide (rread_any A n c w.heap.size zs (w.alloc (.cells (ltC zeroLt) 37)) hn (hz.deep.keep fun k hk => Below.heap_alloc _ _ _ hk) (by simp) ho hc ln)
  have hs : w.heap.size < (w.alloc (.cells (ltC zeroLt) 37)).heap.size := by simp
  clear hz hn ho hc ln
  go_enter Try.func22, Try.ntmps22
  go_upto_region 1 with (fail)
  rw [zero_lt]
  generalize w.alloc (.cells (ltC zeroLt) 37) = w0 at HL HB HC hs ⊢
  go_upto_region 2 with (go_at_call 24; (with_reducible refine HC.out.mono ?_); rintro x w1 ⟨g, rfl, hg, hr, hb⟩; have HR := hide hr; have HG := hide (Nat.lt_of_lt_of_le hs hg); have HL := hide (HL.out.kept hb); have HB := hide (kept_trans HB.out hb); clear hr hg hb HC hs)
  have HN := hide (rnum_g HR.out)
  go_upto_region 3 with (first
    | (go_at_call 61; (with_reducible refine HN.out.mono ?_); rintro x w2 ⟨k, i1, e1, rfl, hr, hg, hd, hp⟩; have HL := hide (HL.out.other hg (by have := HG.out; omega)); have HB := hide (below_own HB.out hg (by have := HG.out; omega)); have HR := hide hr; have G1 := hide hd; clear hr hg hd hp HN)
    | ((with_reducible refine wpList_build_one (i := 0) (u := .int .i64 k) ?_ ?_ (fill_k k _) ?_); rfl; rfl)
    | ((with_reducible refine wpList_store_new (vs := ltC (bare0 k 0 0)) ?_ ?_ (lt_allc _) ?_ ?_ ?_); exact lt_info; rfl; rfl; rfl))
  try simp only [Act.put]
  have ZO := hide (show Zo 59 w (w2.alloc (.cells (ltC (bare0 k 0 0)) 37)) w.heap.size g zs i1 e1 w.heap.size w2.heap.size (bare0 k 0 0) from
    ⟨HR.out.alloc _, HB.out.alloc HB.out.size _, HL.out.kept ((Below.refl _ _).alloc (Nat.le_refl _) _), LAt.new ⟨rfl, rfl, rfl⟩ w2 _, Nat.le_refl _, HG.out, HR.out.lt⟩)
  clear HL HB HG HR
  generalize w2.alloc (.cells (ltC (bare0 k 0 0)) 37) = w3 at ZO ⊢
  generalize w2.heap.size = h at ZO ⊢
  have HN := hide (rnum_g ZO.out.k)
  go_upto_region 4 with (first
    | (go_at_call 61; (with_reducible refine HN.out.mono ?_); rintro x w4 ⟨f, i2, e2, rfl, hr, hg, hd, hp⟩; have ZO := hide (ZO.out.step hr hg); have G2 := hide hd; clear hr hg hd hp HN)
    | ((with_reducible refine wpList_store_lf (n := f) ?_ ?_ ZO.out.c ?_); rfl; rfl; intro w5 hn hg; have ZO := hide (ZO.out.put hn hg); clear hn hg))
  try simp only [Act.put]
  have HN := hide (rnum_g ZO.out.k)
  go_upto_region 5 with (first
    | (go_at_call 61; (with_reducible refine HN.out.mono ?_); rintro x w4 ⟨t, i3, e3, rfl, hr, hg, hd, hp⟩; have ZO := hide (ZO.out.step hr hg); have G3 := hide hd; clear hr hg hd hp HN)
    | ((with_reducible refine wpList_store_lt (n := t) ?_ ?_ ZO.out.c ?_); rfl; rfl; intro w5 hn hg; have ZO := hide (show Zo 59 w w5 w.heap.size g zs i3 e3 w.heap.size h (bare0 k f t) from ZO.out.put hn hg); clear hn hg))
  try simp only [Act.put]
  have c0 : w5.cell? ⟨h, 0, none⟩ = some (.int .i64 k) := ZO.out.c.k1
  obtain ⟨c2, f2⟩ := ZO.out.k.err2
  clear f2
  by_cases he : e3 = 0
  · subst he
    by_cases hk : 1 ≤ k ∧ k ≤ 11
    · have HK := hide (show Got (dKind zs 0) 0 (k, f, t) i3 0 from G1.out.bnd (G2.out.bnd (G3.out.bnd (by rw [if_pos hk]; exact Got.ok _ _ _))))
      clear G1 G2 G3
      obtain hk | hk | hk | hk | hk | hk | hk | hk | hk | hk | hk : k = 1 ∨ k = 2 ∨ k = 3 ∨ k = 4 ∨ k = 5 ∨ k = 6 ∨ k = 7 ∨ k = 8 ∨ k = 9 ∨ k = 10 ∨ k = 11 := by omega
      · subst hk
        go_upto_region 8 with (fail)
        clear c2
        have HN := hide (rinst_g ZO.out.k)
        go_upto_region 9 with (first
          | (go_at_call 62; (with_reducible refine HN.out.mono ?_); rintro x w6 ⟨vi, i4, e4, rfl, hr, hg, hd, hp⟩; have ZO := hide (ZO.out.step hr hg); have G4 := hide hd; have P4 := hide hp; have c0 : w6.cell? ⟨h, 0, none⟩ = some (.int .i64 1) := ZO.out.c.k1; clear hr hg hd hp HN)
          | ((with_reducible refine wpList_store_li (p := vi.1) (q := vi.2) ?_ ?_ ZO.out.c ?_); rfl; rfl; intro w7 hn hg; have ZO := hide (ZO.out.put hn hg); have c0 : w7.cell? ⟨h, 0, none⟩ = some (.int .i64 1) := ZO.out.c.k1; clear hn hg))
        try simp only [Act.put]
        have HN := hide (rballot_g ZO.out.k)
        go_upto_region 11 with (first
          | (go_at_call 63; (with_reducible refine HN.out.mono ?_); rintro x w6 ⟨vb, i5, e5, rfl, hr, hg, hd, hp⟩; have ZO := hide (ZO.out.step hr hg); have G5 := hide hd; have P5 := hide hp; have c0 : w6.cell? ⟨h, 0, none⟩ = some (.int .i64 1) := ZO.out.c.k1; clear hr hg hd hp HN)
          | ((with_reducible refine wpList_store_lb (p := vb.1) (q := vb.2) ?_ ?_ ZO.out.c ?_); rfl; rfl; intro w7 hn hg; have ZO := hide (ZO.out.put hn hg); have c0 : w7.cell? ⟨h, 0, none⟩ = some (.int .i64 1) := ZO.out.c.k1; clear hn hg))
        try simp only [Act.put]
        go_upto_region 15 with (fail)
        have HN := hide (rcmd_g ZO.out.k)
        go_upto_region 16 with (first
          | (go_at_call 64; (with_reducible refine HN.out.mono ?_); rintro x w6 ⟨vc, i6, e6, rfl, hr, hg, hd, hp⟩; have ZO := hide (ZO.out.step hr hg); have G6 := hide hd; have P6 := hide hp; have c0 : w6.cell? ⟨h, 0, none⟩ = some (.int .i64 1) := ZO.out.c.k1; clear hr hg hd hp HN)
          | ((with_reducible refine wpList_store_lc (c := vc) ?_ ?_ ZO.out.c ?_); rfl; rfl; intro w7 hn hg; have ZO := hide (ZO.out.put hn hg); have c0 : w7.cell? ⟨h, 0, none⟩ = some (.int .i64 1) := ZO.out.c.k1; clear hn hg))
        try simp only [Act.put]
        have HN := hide (rattr_g ZO.out.k)
        go_upto_region 29 with (first
          | (go_at_call 65; (with_reducible refine HN.out.mono ?_); rintro x w6 ⟨va, i7, e7, rfl, hr, hg, hd, hp⟩; have ZO := hide (ZO.out.step hr hg); have G7 := hide hd; have P7 := hide hp; have c0 : w6.cell? ⟨h, 0, none⟩ = some (.int .i64 1) := ZO.out.c.k1; clear hr hg hd hp HN)
          | ((with_reducible refine wpList_store_la (y := va) P7.out ?_ ?_ ZO.out.c ?_); rfl; rfl; intro w7 hn hg; have ZO := hide (ZO.out.put hn hg); have c0 : w7.cell? ⟨h, 0, none⟩ = some (.int .i64 1) := ZO.out.c.k1; clear hn hg))
        try simp only [Act.put]
        clear c0
        have GM := hide (show Got (dLt0 zs 0) 0 ({ bare0 1 f t with i := (vi.1, vi.2), b := (vb.1, vb.2), c := vc, a := va } : Lt) i7 e7 from tail_kind HK.out (by unfold dRest; exact (got_opt rfl (G4.out)).bnd ((got_opt rfl (G5.out)).bnd ((got_opt rfl (G6.out)).bnd ((got_opt rfl (G7.out)).bnd ((got_none rfl).bnd ((got_none rfl).bnd ((got_none rfl).bnd (Got.ok _ _ _)))))))))
        clear HK G4 G5 G6 G7
        have HE := got_end GM.out
        have WM := hide ZO.out.c.wf
        have hN := rend_to ZO.out.k
        obtain ⟨m, hm⟩ : ∃ m, ({ bare0 1 f t with i := (vi.1, vi.2), b := (vb.1, vb.2), c := vc, a := va } : Lt) = m := ⟨_, rfl⟩
        rw [hm] at HE ZO WM
        clear GM hm
        obtain ⟨E, hE⟩ : ∃ E, rEndE zs i7 e7 = E := ⟨_, rfl⟩
        rw [hE] at HE hN
        have HN := hide hN
        clear hN hE
        by_cases h0 : E = 0
        · subst h0
          rw [if_pos rfl] at HE
          go_upto_region 32 with (go_at_call 67; (with_reducible refine HN.out.mono ?_); rintro x w10 ⟨rfl, hr, hg⟩; have ZO := hide (ZO.out.step hr hg); clear hr hg HN)
          have HR := fun w => rrightletter_any m WM.out w
          cases hq : rightLt m
          · rw [hq, if_neg (by decide)] at HE
            simp only [hq] at HR
            have HD := hide HE
            clear hq HE
            go_wp2_with (first
              | ((with_reducible refine wpList_load_lt ZO.out.c.wf ?_ ?_ ZO.out.c.all ?_); rfl; rfl)
              | (go_at_call 17; (with_reducible refine (HR _).mono ?_); rintro x w11 ⟨rfl, hb⟩; have ZO := hide (ZO.out.quiet hb); clear hb)
              | ((with_reducible refine wpList_build_no ?_ (fill_lz _) ?_); rfl)
              | ((with_reducible refine wpList_store_lw (y := zeroLt) wf_zeroLt ?_ ?_ ZO.out.z ?_); rfl; rfl; intro w12 hn hg; have HF := hide (And.intro hn (ZO.out.done hg)); clear hn hg))
            exact bodyPost_ret (results_lb Try.results22 rfl HF.out.1 rfl) rfl ⟨zeroLt, 4, rfl, HD.out, wf_zeroLt, HF.out.2⟩
          · rw [hq, if_pos rfl] at HE
            simp only [hq] at HR
            have HD := hide HE
            clear hq HE
            go_wp2_with (first
              | ((with_reducible refine wpList_load_lt ZO.out.c.wf ?_ ?_ ZO.out.c.all ?_); rfl; rfl)
              | (go_at_call 17; (with_reducible refine (HR _).mono ?_); rintro x w11 ⟨rfl, hb⟩; have ZO := hide (ZO.out.quiet hb); clear hb)
              | ((with_reducible refine wpList_store_lw (y := m) WM.out ?_ ?_ ZO.out.z ?_); rfl; rfl; intro w12 hn hg; have HF := hide (And.intro hn (ZO.out.done hg)); clear hn hg))
            exact bodyPost_ret (results_lb Try.results22 rfl HF.out.1 rfl) rfl ⟨m, 0, rfl, HD.out, WM.out, HF.out.2⟩
        · rw [if_neg h0] at HE
          have t0 : (E != 0) = true := by simpa using h0
          have HD := hide HE
          clear h0 HE
          go_wp2_with (first
            | (go_at_call 67; (with_reducible refine HN.out.mono ?_); rintro x w10 ⟨rfl, hr, hg⟩; have ZO := hide (ZO.out.step hr hg); clear hr hg HN)
            | ((with_reducible refine wpList_build_no ?_ (fill_lz _) ?_); rfl)
            | ((with_reducible refine wpList_store_lw (y := zeroLt) wf_zeroLt ?_ ?_ ZO.out.z ?_); rfl; rfl; intro w12 hn hg; have HF := hide (And.intro hn (ZO.out.done hg)); clear hn hg))
          exact bodyPost_ret (results_lb Try.results22 rfl HF.out.1 rfl) rfl ⟨zeroLt, E, rfl, HD.out, wf_zeroLt, HF.out.2⟩
      · subst hk
        go_upto_region 8 with (fail)
        clear c2
        have HN := hide (rinst_g ZO.out.k)
        go_upto_region 9 with (first
          | (go_at_call 62; (with_reducible refine HN.out.mono ?_); rintro x w6 ⟨vi, i4, e4, rfl, hr, hg, hd, hp⟩; have ZO := hide (ZO.out.step hr hg); have G4 := hide hd; have P4 := hide hp; have c0 : w6.cell? ⟨h, 0, none⟩ = some (.int .i64 2) := ZO.out.c.k1; clear hr hg hd hp HN)
          | ((with_reducible refine wpList_store_li (p := vi.1) (q := vi.2) ?_ ?_ ZO.out.c ?_); rfl; rfl; intro w7 hn hg; have ZO := hide (ZO.out.put hn hg); have c0 : w7.cell? ⟨h, 0, none⟩ = some (.int .i64 2) := ZO.out.c.k1; clear hn hg))
        try simp only [Act.put]
        have HN := hide (rballot_g ZO.out.k)
        go_upto_region 11 with (first
          | (go_at_call 63; (with_reducible refine HN.out.mono ?_); rintro x w6 ⟨vb, i5, e5, rfl, hr, hg, hd, hp⟩; have ZO := hide (ZO.out.step hr hg); have G5 := hide hd; have P5 := hide hp; have c0 : w6.cell? ⟨h, 0, none⟩ = some (.int .i64 2) := ZO.out.c.k1; clear hr hg hd hp HN)
          | ((with_reducible refine wpList_store_lb (p := vb.1) (q := vb.2) ?_ ?_ ZO.out.c ?_); rfl; rfl; intro w7 hn hg; have ZO := hide (ZO.out.put hn hg); have c0 : w7.cell? ⟨h, 0, none⟩ = some (.int .i64 2) := ZO.out.c.k1; clear hn hg))
        try simp only [Act.put]
        go_upto_region 18 with (fail)
        have HN := hide (rattr_g ZO.out.k)
        go_upto_region 29 with (first
          | (go_at_call 65; (with_reducible refine HN.out.mono ?_); rintro x w6 ⟨va, i6, e6, rfl, hr, hg, hd, hp⟩; have ZO := hide (ZO.out.step hr hg); have G6 := hide hd; have P6 := hide hp; have c0 : w6.cell? ⟨h, 0, none⟩ = some (.int .i64 2) := ZO.out.c.k1; clear hr hg hd hp HN)
          | ((with_reducible refine wpList_store_la (y := va) P6.out ?_ ?_ ZO.out.c ?_); rfl; rfl; intro w7 hn hg; have ZO := hide (ZO.out.put hn hg); have c0 : w7.cell? ⟨h, 0, none⟩ = some (.int .i64 2) := ZO.out.c.k1; clear hn hg))
        try simp only [Act.put]
        clear c0
        have GM := hide (show Got (dLt0 zs 0) 0 ({ bare0 2 f t with i := (vi.1, vi.2), b := (vb.1, vb.2), a := va } : Lt) i6 e6 from tail_kind HK.out (by unfold dRest; exact (got_opt rfl (G4.out)).bnd ((got_opt rfl (G5.out)).bnd ((got_none rfl).bnd ((got_opt rfl (G6.out)).bnd ((got_none rfl).bnd ((got_none rfl).bnd ((got_none rfl).bnd (Got.ok _ _ _)))))))))
        clear HK G4 G5 G6
        have HE := got_end GM.out
        have WM := hide ZO.out.c.wf
        have hN := rend_to ZO.out.k
        obtain ⟨m, hm⟩ : ∃ m, ({ bare0 2 f t with i := (vi.1, vi.2), b := (vb.1, vb.2), a := va } : Lt) = m := ⟨_, rfl⟩
        rw [hm] at HE ZO WM
        clear GM hm
        obtain ⟨E, hE⟩ : ∃ E, rEndE zs i6 e6 = E := ⟨_, rfl⟩
        rw [hE] at HE hN
        have HN := hide hN
        clear hN hE
        by_cases h0 : E = 0
        · subst h0
          rw [if_pos rfl] at HE
          go_upto_region 32 with (go_at_call 67; (with_reducible refine HN.out.mono ?_); rintro x w10 ⟨rfl, hr, hg⟩; have ZO := hide (ZO.out.step hr hg); clear hr hg HN)
          have HR := fun w => rrightletter_any m WM.out w
          cases hq : rightLt m
          · rw [hq, if_neg (by decide)] at HE
            simp only [hq] at HR
            have HD := hide HE
            clear hq HE
            go_wp2_with (first
              | ((with_reducible refine wpList_load_lt ZO.out.c.wf ?_ ?_ ZO.out.c.all ?_); rfl; rfl)
              | (go_at_call 17; (with_reducible refine (HR _).mono ?_); rintro x w11 ⟨rfl, hb⟩; have ZO := hide (ZO.out.quiet hb); clear hb)
              | ((with_reducible refine wpList_build_no ?_ (fill_lz _) ?_); rfl)
              | ((with_reducible refine wpList_store_lw (y := zeroLt) wf_zeroLt ?_ ?_ ZO.out.z ?_); rfl; rfl; intro w12 hn hg; have HF := hide (And.intro hn (ZO.out.done hg)); clear hn hg))
            exact bodyPost_ret (results_lb Try.results22 rfl HF.out.1 rfl) rfl ⟨zeroLt, 4, rfl, HD.out, wf_zeroLt, HF.out.2⟩
          · rw [hq, if_pos rfl] at HE
            simp only [hq] at HR
            have HD := hide HE
            clear hq HE
            go_wp2_with (first
              | ((with_reducible refine wpList_load_lt ZO.out.c.wf ?_ ?_ ZO.out.c.all ?_); rfl; rfl)
              | (go_at_call 17; (with_reducible refine (HR _).mono ?_); rintro x w11 ⟨rfl, hb⟩; have ZO := hide (ZO.out.quiet hb); clear hb)
              | ((with_reducible refine wpList_store_lw (y := m) WM.out ?_ ?_ ZO.out.z ?_); rfl; rfl; intro w12 hn hg; have HF := hide (And.intro hn (ZO.out.done hg)); clear hn hg))
            exact bodyPost_ret (results_lb Try.results22 rfl HF.out.1 rfl) rfl ⟨m, 0, rfl, HD.out, WM.out, HF.out.2⟩
        · rw [if_neg h0] at HE
          have t0 : (E != 0) = true := by simpa using h0
          have HD := hide HE
          clear h0 HE
          go_wp2_with (first
            | (go_at_call 67; (with_reducible refine HN.out.mono ?_); rintro x w10 ⟨rfl, hr, hg⟩; have ZO := hide (ZO.out.step hr hg); clear hr hg HN)
            | ((with_reducible refine wpList_build_no ?_ (fill_lz _) ?_); rfl)
            | ((with_reducible refine wpList_store_lw (y := zeroLt) wf_zeroLt ?_ ?_ ZO.out.z ?_); rfl; rfl; intro w12 hn hg; have HF := hide (And.intro hn (ZO.out.done hg)); clear hn hg))
          exact bodyPost_ret (results_lb Try.results22 rfl HF.out.1 rfl) rfl ⟨zeroLt, E, rfl, HD.out, wf_zeroLt, HF.out.2⟩
      · subst hk
        go_upto_region 8 with (fail)
        clear c2
        have HN := hide (rinst_g ZO.out.k)
        go_upto_region 9 with (first
          | (go_at_call 62; (with_reducible refine HN.out.mono ?_); rintro x w6 ⟨vi, i4, e4, rfl, hr, hg, hd, hp⟩; have ZO := hide (ZO.out.step hr hg); have G4 := hide hd; have P4 := hide hp; have c0 : w6.cell? ⟨h, 0, none⟩ = some (.int .i64 3) := ZO.out.c.k1; clear hr hg hd hp HN)
          | ((with_reducible refine wpList_store_li (p := vi.1) (q := vi.2) ?_ ?_ ZO.out.c ?_); rfl; rfl; intro w7 hn hg; have ZO := hide (ZO.out.put hn hg); have c0 : w7.cell? ⟨h, 0, none⟩ = some (.int .i64 3) := ZO.out.c.k1; clear hn hg))
        try simp only [Act.put]
        have HN := hide (rballot_g ZO.out.k)
        go_upto_region 11 with (first
          | (go_at_call 63; (with_reducible refine HN.out.mono ?_); rintro x w6 ⟨vb, i5, e5, rfl, hr, hg, hd, hp⟩; have ZO := hide (ZO.out.step hr hg); have G5 := hide hd; have P5 := hide hp; have c0 : w6.cell? ⟨h, 0, none⟩ = some (.int .i64 3) := ZO.out.c.k1; clear hr hg hd hp HN)
          | ((with_reducible refine wpList_store_lb (p := vb.1) (q := vb.2) ?_ ?_ ZO.out.c ?_); rfl; rfl; intro w7 hn hg; have ZO := hide (ZO.out.put hn hg); have c0 : w7.cell? ⟨h, 0, none⟩ = some (.int .i64 3) := ZO.out.c.k1; clear hn hg))
        try simp only [Act.put]
        go_upto_region 15 with (fail)
        have HN := hide (rcmd_g ZO.out.k)
        go_upto_region 16 with (first
          | (go_at_call 64; (with_reducible refine HN.out.mono ?_); rintro x w6 ⟨vc, i6, e6, rfl, hr, hg, hd, hp⟩; have ZO := hide (ZO.out.step hr hg); have G6 := hide hd; have P6 := hide hp; have c0 : w6.cell? ⟨h, 0, none⟩ = some (.int .i64 3) := ZO.out.c.k1; clear hr hg hd hp HN)
          | ((with_reducible refine wpList_store_lc (c := vc) ?_ ?_ ZO.out.c ?_); rfl; rfl; intro w7 hn hg; have ZO := hide (ZO.out.put hn hg); have c0 : w7.cell? ⟨h, 0, none⟩ = some (.int .i64 3) := ZO.out.c.k1; clear hn hg))
        try simp only [Act.put]
        have HN := hide (rattr_g ZO.out.k)
        go_upto_region 29 with (first
          | (go_at_call 65; (with_reducible refine HN.out.mono ?_); rintro x w6 ⟨va, i7, e7, rfl, hr, hg, hd, hp⟩; have ZO := hide (ZO.out.step hr hg); have G7 := hide hd; have P7 := hide hp; have c0 : w6.cell? ⟨h, 0, none⟩ = some (.int .i64 3) := ZO.out.c.k1; clear hr hg hd hp HN)
          | ((with_reducible refine wpList_store_la (y := va) P7.out ?_ ?_ ZO.out.c ?_); rfl; rfl; intro w7 hn hg; have ZO := hide (ZO.out.put hn hg); have c0 : w7.cell? ⟨h, 0, none⟩ = some (.int .i64 3) := ZO.out.c.k1; clear hn hg))
        try simp only [Act.put]
        clear c0
        have GM := hide (show Got (dLt0 zs 0) 0 ({ bare0 3 f t with i := (vi.1, vi.2), b := (vb.1, vb.2), c := vc, a := va } : Lt) i7 e7 from tail_kind HK.out (by unfold dRest; exact (got_opt rfl (G4.out)).bnd ((got_opt rfl (G5.out)).bnd ((got_opt rfl (G6.out)).bnd ((got_opt rfl (G7.out)).bnd ((got_none rfl).bnd ((got_none rfl).bnd ((got_none rfl).bnd (Got.ok _ _ _)))))))))
        clear HK G4 G5 G6 G7
        have HE := got_end GM.out
        have WM := hide ZO.out.c.wf
        have hN := rend_to ZO.out.k
        obtain ⟨m, hm⟩ : ∃ m, ({ bare0 3 f t with i := (vi.1, vi.2), b := (vb.1, vb.2), c := vc, a := va } : Lt) = m := ⟨_, rfl⟩
        rw [hm] at HE ZO WM
        clear GM hm
        obtain ⟨E, hE⟩ : ∃ E, rEndE zs i7 e7 = E := ⟨_, rfl⟩
        rw [hE] at HE hN
        have HN := hide hN
        clear hN hE
        by_cases h0 : E = 0
        · subst h0
          rw [if_pos rfl] at HE
          go_upto_region 32 with (go_at_call 67; (with_reducible refine HN.out.mono ?_); rintro x w10 ⟨rfl, hr, hg⟩; have ZO := hide (ZO.out.step hr hg); clear hr hg HN)
          have HR := fun w => rrightletter_any m WM.out w
          cases hq : rightLt m
          · rw [hq, if_neg (by decide)] at HE
            simp only [hq] at HR
            have HD := hide HE
            clear hq HE
            go_wp2_with (first
              | ((with_reducible refine wpList_load_lt ZO.out.c.wf ?_ ?_ ZO.out.c.all ?_); rfl; rfl)
              | (go_at_call 17; (with_reducible refine (HR _).mono ?_); rintro x w11 ⟨rfl, hb⟩; have ZO := hide (ZO.out.quiet hb); clear hb)
              | ((with_reducible refine wpList_build_no ?_ (fill_lz _) ?_); rfl)
              | ((with_reducible refine wpList_store_lw (y := zeroLt) wf_zeroLt ?_ ?_ ZO.out.z ?_); rfl; rfl; intro w12 hn hg; have HF := hide (And.intro hn (ZO.out.done hg)); clear hn hg))
            exact bodyPost_ret (results_lb Try.results22 rfl HF.out.1 rfl) rfl ⟨zeroLt, 4, rfl, HD.out, wf_zeroLt, HF.out.2⟩
          · rw [hq, if_pos rfl] at HE
            simp only [hq] at HR
            have HD := hide HE
            clear hq HE
            go_wp2_with (first
              | ((with_reducible refine wpList_load_lt ZO.out.c.wf ?_ ?_ ZO.out.c.all ?_); rfl; rfl)
              | (go_at_call 17; (with_reducible refine (HR _).mono ?_); rintro x w11 ⟨rfl, hb⟩; have ZO := hide (ZO.out.quiet hb); clear hb)
              | ((with_reducible refine wpList_store_lw (y := m) WM.out ?_ ?_ ZO.out.z ?_); rfl; rfl; intro w12 hn hg; have HF := hide (And.intro hn (ZO.out.done hg)); clear hn hg))
            exact bodyPost_ret (results_lb Try.results22 rfl HF.out.1 rfl) rfl ⟨m, 0, rfl, HD.out, WM.out, HF.out.2⟩
        · rw [if_neg h0] at HE
          have t0 : (E != 0) = true := by simpa using h0
          have HD := hide HE
          clear h0 HE
          go_wp2_with (first
            | (go_at_call 67; (with_reducible refine HN.out.mono ?_); rintro x w10 ⟨rfl, hr, hg⟩; have ZO := hide (ZO.out.step hr hg); clear hr hg HN)
            | ((with_reducible refine wpList_build_no ?_ (fill_lz _) ?_); rfl)
            | ((with_reducible refine wpList_store_lw (y := zeroLt) wf_zeroLt ?_ ?_ ZO.out.z ?_); rfl; rfl; intro w12 hn hg; have HF := hide (And.intro hn (ZO.out.done hg)); clear hn hg))
          exact bodyPost_ret (results_lb Try.results22 rfl HF.out.1 rfl) rfl ⟨zeroLt, E, rfl, HD.out, wf_zeroLt, HF.out.2⟩
      · subst hk
        go_upto_region 8 with (fail)
        clear c2
        have HN := hide (rinst_g ZO.out.k)
        go_upto_region 9 with (first
          | (go_at_call 62; (with_reducible refine HN.out.mono ?_); rintro x w6 ⟨vi, i4, e4, rfl, hr, hg, hd, hp⟩; have ZO := hide (ZO.out.step hr hg); have G4 := hide hd; have P4 := hide hp; have c0 : w6.cell? ⟨h, 0, none⟩ = some (.int .i64 4) := ZO.out.c.k1; clear hr hg hd hp HN)
          | ((with_reducible refine wpList_store_li (p := vi.1) (q := vi.2) ?_ ?_ ZO.out.c ?_); rfl; rfl; intro w7 hn hg; have ZO := hide (ZO.out.put hn hg); have c0 : w7.cell? ⟨h, 0, none⟩ = some (.int .i64 4) := ZO.out.c.k1; clear hn hg))
        try simp only [Act.put]
        have HN := hide (rballot_g ZO.out.k)
        go_upto_region 11 with (first
          | (go_at_call 63; (with_reducible refine HN.out.mono ?_); rintro x w6 ⟨vb, i5, e5, rfl, hr, hg, hd, hp⟩; have ZO := hide (ZO.out.step hr hg); have G5 := hide hd; have P5 := hide hp; have c0 : w6.cell? ⟨h, 0, none⟩ = some (.int .i64 4) := ZO.out.c.k1; clear hr hg hd hp HN)
          | ((with_reducible refine wpList_store_lb (p := vb.1) (q := vb.2) ?_ ?_ ZO.out.c ?_); rfl; rfl; intro w7 hn hg; have ZO := hide (ZO.out.put hn hg); have c0 : w7.cell? ⟨h, 0, none⟩ = some (.int .i64 4) := ZO.out.c.k1; clear hn hg))
        try simp only [Act.put]
        go_upto_region 29 with (fail)
        clear c0
        have GM := hide (show Got (dLt0 zs 0) 0 ({ bare0 4 f t with i := (vi.1, vi.2), b := (vb.1, vb.2) } : Lt) i5 e5 from tail_kind HK.out (by unfold dRest; exact (got_opt rfl (G4.out)).bnd ((got_opt rfl (G5.out)).bnd ((got_none rfl).bnd ((got_none rfl).bnd ((got_none rfl).bnd ((got_none rfl).bnd ((got_none rfl).bnd (Got.ok _ _ _)))))))))
        clear HK G4 G5
        have HE := got_end GM.out
        have WM := hide ZO.out.c.wf
        have hN := rend_to ZO.out.k
        obtain ⟨m, hm⟩ : ∃ m, ({ bare0 4 f t with i := (vi.1, vi.2), b := (vb.1, vb.2) } : Lt) = m := ⟨_, rfl⟩
        rw [hm] at HE ZO WM
        clear GM hm
        obtain ⟨E, hE⟩ : ∃ E, rEndE zs i5 e5 = E := ⟨_, rfl⟩
        rw [hE] at HE hN
        have HN := hide hN
        clear hN hE
        by_cases h0 : E = 0
        · subst h0
          rw [if_pos rfl] at HE
          go_upto_region 32 with (go_at_call 67; (with_reducible refine HN.out.mono ?_); rintro x w10 ⟨rfl, hr, hg⟩; have ZO := hide (ZO.out.step hr hg); clear hr hg HN)
          have HR := fun w => rrightletter_any m WM.out w
          cases hq : rightLt m
          · rw [hq, if_neg (by decide)] at HE
            simp only [hq] at HR
            have HD := hide HE
            clear hq HE
            go_wp2_with (first
              | ((with_reducible refine wpList_load_lt ZO.out.c.wf ?_ ?_ ZO.out.c.all ?_); rfl; rfl)
              | (go_at_call 17; (with_reducible refine (HR _).mono ?_); rintro x w11 ⟨rfl, hb⟩; have ZO := hide (ZO.out.quiet hb); clear hb)
              | ((with_reducible refine wpList_build_no ?_ (fill_lz _) ?_); rfl)
              | ((with_reducible refine wpList_store_lw (y := zeroLt) wf_zeroLt ?_ ?_ ZO.out.z ?_); rfl; rfl; intro w12 hn hg; have HF := hide (And.intro hn (ZO.out.done hg)); clear hn hg))
            exact bodyPost_ret (results_lb Try.results22 rfl HF.out.1 rfl) rfl ⟨zeroLt, 4, rfl, HD.out, wf_zeroLt, HF.out.2⟩
          · rw [hq, if_pos rfl] at HE
            simp only [hq] at HR
            have HD := hide HE
            clear hq HE
            go_wp2_with (first
              | ((with_reducible refine wpList_load_lt ZO.out.c.wf ?_ ?_ ZO.out.c.all ?_); rfl; rfl)
              | (go_at_call 17; (with_reducible refine (HR _).mono ?_); rintro x w11 ⟨rfl, hb⟩; have ZO := hide (ZO.out.quiet hb); clear hb)
              | ((with_reducible refine wpList_store_lw (y := m) WM.out ?_ ?_ ZO.out.z ?_); rfl; rfl; intro w12 hn hg; have HF := hide (And.intro hn (ZO.out.done hg)); clear hn hg))
            exact bodyPost_ret (results_lb Try.results22 rfl HF.out.1 rfl) rfl ⟨m, 0, rfl, HD.out, WM.out, HF.out.2⟩
        · rw [if_neg h0] at HE
          have t0 : (E != 0) = true := by simpa using h0
          have HD := hide HE
          clear h0 HE
          go_wp2_with (first
            | (go_at_call 67; (with_reducible refine HN.out.mono ?_); rintro x w10 ⟨rfl, hr, hg⟩; have ZO := hide (ZO.out.step hr hg); clear hr hg HN)
            | ((with_reducible refine wpList_build_no ?_ (fill_lz _) ?_); rfl)
            | ((with_reducible refine wpList_store_lw (y := zeroLt) wf_zeroLt ?_ ?_ ZO.out.z ?_); rfl; rfl; intro w12 hn hg; have HF := hide (And.intro hn (ZO.out.done hg)); clear hn hg))
          exact bodyPost_ret (results_lb Try.results22 rfl HF.out.1 rfl) rfl ⟨zeroLt, E, rfl, HD.out, wf_zeroLt, HF.out.2⟩
      · subst hk
        go_upto_region 8 with (fail)
        clear c2
        have HN := hide (rinst_g ZO.out.k)
        go_upto_region 9 with (first
          | (go_at_call 62; (with_reducible refine HN.out.mono ?_); rintro x w6 ⟨vi, i4, e4, rfl, hr, hg, hd, hp⟩; have ZO := hide (ZO.out.step hr hg); have G4 := hide hd; have P4 := hide hp; have c0 : w6.cell? ⟨h, 0, none⟩ = some (.int .i64 5) := ZO.out.c.k1; clear hr hg hd hp HN)
          | ((with_reducible refine wpList_store_li (p := vi.1) (q := vi.2) ?_ ?_ ZO.out.c ?_); rfl; rfl; intro w7 hn hg; have ZO := hide (ZO.out.put hn hg); have c0 : w7.cell? ⟨h, 0, none⟩ = some (.int .i64 5) := ZO.out.c.k1; clear hn hg))
        try simp only [Act.put]
        go_upto_region 15 with (fail)
        have HN := hide (rcmd_g ZO.out.k)
        go_upto_region 16 with (first
          | (go_at_call 64; (with_reducible refine HN.out.mono ?_); rintro x w6 ⟨vc, i5, e5, rfl, hr, hg, hd, hp⟩; have ZO := hide (ZO.out.step hr hg); have G5 := hide hd; have P5 := hide hp; have c0 : w6.cell? ⟨h, 0, none⟩ = some (.int .i64 5) := ZO.out.c.k1; clear hr hg hd hp HN)
          | ((with_reducible refine wpList_store_lc (c := vc) ?_ ?_ ZO.out.c ?_); rfl; rfl; intro w7 hn hg; have ZO := hide (ZO.out.put hn hg); have c0 : w7.cell? ⟨h, 0, none⟩ = some (.int .i64 5) := ZO.out.c.k1; clear hn hg))
        try simp only [Act.put]
        have HN := hide (rattr_g ZO.out.k)
        go_upto_region 29 with (first
          | (go_at_call 65; (with_reducible refine HN.out.mono ?_); rintro x w6 ⟨va, i6, e6, rfl, hr, hg, hd, hp⟩; have ZO := hide (ZO.out.step hr hg); have G6 := hide hd; have P6 := hide hp; have c0 : w6.cell? ⟨h, 0, none⟩ = some (.int .i64 5) := ZO.out.c.k1; clear hr hg hd hp HN)
          | ((with_reducible refine wpList_store_la (y := va) P6.out ?_ ?_ ZO.out.c ?_); rfl; rfl; intro w7 hn hg; have ZO := hide (ZO.out.put hn hg); have c0 : w7.cell? ⟨h, 0, none⟩ = some (.int .i64 5) := ZO.out.c.k1; clear hn hg))
        try simp only [Act.put]
        clear c0
        have GM := hide (show Got (dLt0 zs 0) 0 ({ bare0 5 f t with i := (vi.1, vi.2), c := vc, a := va } : Lt) i6 e6 from tail_kind HK.out (by unfold dRest; exact (got_opt rfl (G4.out)).bnd ((got_none rfl).bnd ((got_opt rfl (G5.out)).bnd ((got_opt rfl (G6.out)).bnd ((got_none rfl).bnd ((got_none rfl).bnd ((got_none rfl).bnd (Got.ok _ _ _)))))))))
        clear HK G4 G5 G6
        have HE := got_end GM.out
        have WM := hide ZO.out.c.wf
        have hN := rend_to ZO.out.k
        obtain ⟨m, hm⟩ : ∃ m, ({ bare0 5 f t with i := (vi.1, vi.2), c := vc, a := va } : Lt) = m := ⟨_, rfl⟩
        rw [hm] at HE ZO WM
        clear GM hm
        obtain ⟨E, hE⟩ : ∃ E, rEndE zs i6 e6 = E := ⟨_, rfl⟩
        rw [hE] at HE hN
        have HN := hide hN
        clear hN hE
        by_cases h0 : E = 0
        · subst h0
          rw [if_pos rfl] at HE
          go_upto_region 32 with (go_at_call 67; (with_reducible refine HN.out.mono ?_); rintro x w10 ⟨rfl, hr, hg⟩; have ZO := hide (ZO.out.step hr hg); clear hr hg HN)
          have HR := fun w => rrightletter_any m WM.out w
          cases hq : rightLt m
          · rw [hq, if_neg (by decide)] at HE
            simp only [hq] at HR
            have HD := hide HE
            clear hq HE
            go_wp2_with (first
              | ((with_reducible refine wpList_load_lt ZO.out.c.wf ?_ ?_ ZO.out.c.all ?_); rfl; rfl)
              | (go_at_call 17; (with_reducible refine (HR _).mono ?_); rintro x w11 ⟨rfl, hb⟩; have ZO := hide (ZO.out.quiet hb); clear hb)
              | ((with_reducible refine wpList_build_no ?_ (fill_lz _) ?_); rfl)
              | ((with_reducible refine wpList_store_lw (y := zeroLt) wf_zeroLt ?_ ?_ ZO.out.z ?_); rfl; rfl; intro w12 hn hg; have HF := hide (And.intro hn (ZO.out.done hg)); clear hn hg))
            exact bodyPost_ret (results_lb Try.results22 rfl HF.out.1 rfl) rfl ⟨zeroLt, 4, rfl, HD.out, wf_zeroLt, HF.out.2⟩
          · rw [hq, if_pos rfl] at HE
            simp only [hq] at HR
            have HD := hide HE
            clear hq HE
            go_wp2_with (first
              | ((with_reducible refine wpList_load_lt ZO.out.c.wf ?_ ?_ ZO.out.c.all ?_); rfl; rfl)
              | (go_at_call 17; (with_reducible refine (HR _).mono ?_); rintro x w11 ⟨rfl, hb⟩; have ZO := hide (ZO.out.quiet hb); clear hb)
              | ((with_reducible refine wpList_store_lw (y := m) WM.out ?_ ?_ ZO.out.z ?_); rfl; rfl; intro w12 hn hg; have HF := hide (And.intro hn (ZO.out.done hg)); clear hn hg))
            exact bodyPost_ret (results_lb Try.results22 rfl HF.out.1 rfl) rfl ⟨m, 0, rfl, HD.out, WM.out, HF.out.2⟩
        · rw [if_neg h0] at HE
          have t0 : (E != 0) = true := by simpa using h0
          have HD := hide HE
          clear h0 HE
          go_wp2_with (first
            | (go_at_call 67; (with_reducible refine HN.out.mono ?_); rintro x w10 ⟨rfl, hr, hg⟩; have ZO := hide (ZO.out.step hr hg); clear hr hg HN)
            | ((with_reducible refine wpList_build_no ?_ (fill_lz _) ?_); rfl)
            | ((with_reducible refine wpList_store_lw (y := zeroLt) wf_zeroLt ?_ ?_ ZO.out.z ?_); rfl; rfl; intro w12 hn hg; have HF := hide (And.intro hn (ZO.out.done hg)); clear hn hg))
          exact bodyPost_ret (results_lb Try.results22 rfl HF.out.1 rfl) rfl ⟨zeroLt, E, rfl, HD.out, wf_zeroLt, HF.out.2⟩
      · subst hk
        go_upto_region 8 with (fail)
        clear c2
        have HN := hide (rinst_g ZO.out.k)
        go_upto_region 9 with (first
          | (go_at_call 62; (with_reducible refine HN.out.mono ?_); rintro x w6 ⟨vi, i4, e4, rfl, hr, hg, hd, hp⟩; have ZO := hide (ZO.out.step hr hg); have G4 := hide hd; have P4 := hide hp; have c0 : w6.cell? ⟨h, 0, none⟩ = some (.int .i64 6) := ZO.out.c.k1; clear hr hg hd hp HN)
          | ((with_reducible refine wpList_store_li (p := vi.1) (q := vi.2) ?_ ?_ ZO.out.c ?_); rfl; rfl; intro w7 hn hg; have ZO := hide (ZO.out.put hn hg); have c0 : w7.cell? ⟨h, 0, none⟩ = some (.int .i64 6) := ZO.out.c.k1; clear hn hg))
        try simp only [Act.put]
        have HN := hide (rballot_g ZO.out.k)
        go_upto_region 11 with (first
          | (go_at_call 63; (with_reducible refine HN.out.mono ?_); rintro x w6 ⟨vb, i5, e5, rfl, hr, hg, hd, hp⟩; have ZO := hide (ZO.out.step hr hg); have G5 := hide hd; have P5 := hide hp; have c0 : w6.cell? ⟨h, 0, none⟩ = some (.int .i64 6) := ZO.out.c.k1; clear hr hg hd hp HN)
          | ((with_reducible refine wpList_store_lb (p := vb.1) (q := vb.2) ?_ ?_ ZO.out.c ?_); rfl; rfl; intro w7 hn hg; have ZO := hide (ZO.out.put hn hg); have c0 : w7.cell? ⟨h, 0, none⟩ = some (.int .i64 6) := ZO.out.c.k1; clear hn hg))
        try simp only [Act.put]
        go_upto_region 29 with (fail)
        clear c0
        have GM := hide (show Got (dLt0 zs 0) 0 ({ bare0 6 f t with i := (vi.1, vi.2), b := (vb.1, vb.2) } : Lt) i5 e5 from tail_kind HK.out (by unfold dRest; exact (got_opt rfl (G4.out)).bnd ((got_opt rfl (G5.out)).bnd ((got_none rfl).bnd ((got_none rfl).bnd ((got_none rfl).bnd ((got_none rfl).bnd ((got_none rfl).bnd (Got.ok _ _ _)))))))))
        clear HK G4 G5
        have HE := got_end GM.out
        have WM := hide ZO.out.c.wf
        have hN := rend_to ZO.out.k
        obtain ⟨m, hm⟩ : ∃ m, ({ bare0 6 f t with i := (vi.1, vi.2), b := (vb.1, vb.2) } : Lt) = m := ⟨_, rfl⟩
        rw [hm] at HE ZO WM
        clear GM hm
        obtain ⟨E, hE⟩ : ∃ E, rEndE zs i5 e5 = E := ⟨_, rfl⟩
        rw [hE] at HE hN
        have HN := hide hN
        clear hN hE
        by_cases h0 : E = 0
        · subst h0
          rw [if_pos rfl] at HE
          go_upto_region 32 with (go_at_call 67; (with_reducible refine HN.out.mono ?_); rintro x w10 ⟨rfl, hr, hg⟩; have ZO := hide (ZO.out.step hr hg); clear hr hg HN)
          have HR := fun w => rrightletter_any m WM.out w
          cases hq : rightLt m
          · rw [hq, if_neg (by decide)] at HE
            simp only [hq] at HR
            have HD := hide HE
            clear hq HE
            go_wp2_with (first
              | ((with_reducible refine wpList_load_lt ZO.out.c.wf ?_ ?_ ZO.out.c.all ?_); rfl; rfl)
              | (go_at_call 17; (with_reducible refine (HR _).mono ?_); rintro x w11 ⟨rfl, hb⟩; have ZO := hide (ZO.out.quiet hb); clear hb)
              | ((with_reducible refine wpList_build_no ?_ (fill_lz _) ?_); rfl)
              | ((with_reducible refine wpList_store_lw (y := zeroLt) wf_zeroLt ?_ ?_ ZO.out.z ?_); rfl; rfl; intro w12 hn hg; have HF := hide (And.intro hn (ZO.out.done hg)); clear hn hg))
            exact bodyPost_ret (results_lb Try.results22 rfl HF.out.1 rfl) rfl ⟨zeroLt, 4, rfl, HD.out, wf_zeroLt, HF.out.2⟩
          · rw [hq, if_pos rfl] at HE
            simp only [hq] at HR
            have HD := hide HE
            clear hq HE
            go_wp2_with (first
              | ((with_reducible refine wpList_load_lt ZO.out.c.wf ?_ ?_ ZO.out.c.all ?_); rfl; rfl)
              | (go_at_call 17; (with_reducible refine (HR _).mono ?_); rintro x w11 ⟨rfl, hb⟩; have ZO := hide (ZO.out.quiet hb); clear hb)
              | ((with_reducible refine wpList_store_lw (y := m) WM.out ?_ ?_ ZO.out.z ?_); rfl; rfl; intro w12 hn hg; have HF := hide (And.intro hn (ZO.out.done hg)); clear hn hg))
            exact bodyPost_ret (results_lb Try.results22 rfl HF.out.1 rfl) rfl ⟨m, 0, rfl, HD.out, WM.out, HF.out.2⟩
        · rw [if_neg h0] at HE
          have t0 : (E != 0) = true := by simpa using h0
          have HD := hide HE
          clear h0 HE
          go_wp2_with (first
            | (go_at_call 67; (with_reducible refine HN.out.mono ?_); rintro x w10 ⟨rfl, hr, hg⟩; have ZO := hide (ZO.out.step hr hg); clear hr hg HN)
            | ((with_reducible refine wpList_build_no ?_ (fill_lz _) ?_); rfl)
            | ((with_reducible refine wpList_store_lw (y := zeroLt) wf_zeroLt ?_ ?_ ZO.out.z ?_); rfl; rfl; intro w12 hn hg; have HF := hide (And.intro hn (ZO.out.done hg)); clear hn hg))
          exact bodyPost_ret (results_lb Try.results22 rfl HF.out.1 rfl) rfl ⟨zeroLt, E, rfl, HD.out, wf_zeroLt, HF.out.2⟩
      · subst hk
        go_upto_region 8 with (fail)
        clear c2
        have HN := hide (rinst_g ZO.out.k)
        go_upto_region 9 with (first
          | (go_at_call 62; (with_reducible refine HN.out.mono ?_); rintro x w6 ⟨vi, i4, e4, rfl, hr, hg, hd, hp⟩; have ZO := hide (ZO.out.step hr hg); have G4 := hide hd; have P4 := hide hp; have c0 : w6.cell? ⟨h, 0, none⟩ = some (.int .i64 7) := ZO.out.c.k1; clear hr hg hd hp HN)
          | ((with_reducible refine wpList_store_li (p := vi.1) (q := vi.2) ?_ ?_ ZO.out.c ?_); rfl; rfl; intro w7 hn hg; have ZO := hide (ZO.out.put hn hg); have c0 : w7.cell? ⟨h, 0, none⟩ = some (.int .i64 7) := ZO.out.c.k1; clear hn hg))
        try simp only [Act.put]
        have HN := hide (rballot_g ZO.out.k)
        go_upto_region 11 with (first
          | (go_at_call 63; (with_reducible refine HN.out.mono ?_); rintro x w6 ⟨vb, i5, e5, rfl, hr, hg, hd, hp⟩; have ZO := hide (ZO.out.step hr hg); have G5 := hide hd; have P5 := hide hp; have c0 : w6.cell? ⟨h, 0, none⟩ = some (.int .i64 7) := ZO.out.c.k1; clear hr hg hd hp HN)
          | ((with_reducible refine wpList_store_lb (p := vb.1) (q := vb.2) ?_ ?_ ZO.out.c ?_); rfl; rfl; intro w7 hn hg; have ZO := hide (ZO.out.put hn hg); have c0 : w7.cell? ⟨h, 0, none⟩ = some (.int .i64 7) := ZO.out.c.k1; clear hn hg))
        try simp only [Act.put]
        go_upto_region 20 with (fail)
        have HN := hide (rgetcell_g ZO.out.k)
        go_upto_region 29 with (first
          | (go_at_call 26; (with_reducible refine HN.out.mono ?_); rintro x w6 ⟨vx, i6, e6, rfl, hr, hg, hd, hp⟩; have ZO := hide (ZO.out.step hr hg); have G6 := hide hd; have P6 := hide (show vx.a.length = 8 from hp.1); have c0 : w6.cell? ⟨h, 0, none⟩ = some (.int .i64 7) := ZO.out.c.k1; clear hr hg hd hp HN)
          | ((with_reducible refine wpList_store_lx (y := vx) P6.out ?_ ?_ ZO.out.c ?_); rfl; rfl; intro w7 hn hg; have ZO := hide (ZO.out.put hn hg); have c0 : w7.cell? ⟨h, 0, none⟩ = some (.int .i64 7) := ZO.out.c.k1; clear hn hg))
        try simp only [Act.put]
        clear c0
        have GM := hide (show Got (dLt0 zs 0) 0 ({ bare0 7 f t with i := (vi.1, vi.2), b := (vb.1, vb.2), x := vx } : Lt) i6 e6 from tail_kind HK.out (by unfold dRest; exact (got_opt rfl (G4.out)).bnd ((got_opt rfl (G5.out)).bnd ((got_none rfl).bnd ((got_none rfl).bnd ((got_opt rfl (G6.out)).bnd ((got_none rfl).bnd ((got_none rfl).bnd (Got.ok _ _ _)))))))))
        clear HK G4 G5 G6
        have HE := got_end GM.out
        have WM := hide ZO.out.c.wf
        have hN := rend_to ZO.out.k
        obtain ⟨m, hm⟩ : ∃ m, ({ bare0 7 f t with i := (vi.1, vi.2), b := (vb.1, vb.2), x := vx } : Lt) = m := ⟨_, rfl⟩
        rw [hm] at HE ZO WM
        clear GM hm
        obtain ⟨E, hE⟩ : ∃ E, rEndE zs i6 e6 = E := ⟨_, rfl⟩
        rw [hE] at HE hN
        have HN := hide hN
        clear hN hE
        by_cases h0 : E = 0
        · subst h0
          rw [if_pos rfl] at HE
          go_upto_region 32 with (go_at_call 67; (with_reducible refine HN.out.mono ?_); rintro x w10 ⟨rfl, hr, hg⟩; have ZO := hide (ZO.out.step hr hg); clear hr hg HN)
          have HR := fun w => rrightletter_any m WM.out w
          cases hq : rightLt m
          · rw [hq, if_neg (by decide)] at HE
            simp only [hq] at HR
            have HD := hide HE
            clear hq HE
            go_wp2_with (first
              | ((with_reducible refine wpList_load_lt ZO.out.c.wf ?_ ?_ ZO.out.c.all ?_); rfl; rfl)
              | (go_at_call 17; (with_reducible refine (HR _).mono ?_); rintro x w11 ⟨rfl, hb⟩; have ZO := hide (ZO.out.quiet hb); clear hb)
              | ((with_reducible refine wpList_build_no ?_ (fill_lz _) ?_); rfl)
              | ((with_reducible refine wpList_store_lw (y := zeroLt) wf_zeroLt ?_ ?_ ZO.out.z ?_); rfl; rfl; intro w12 hn hg; have HF := hide (And.intro hn (ZO.out.done hg)); clear hn hg))
            exact bodyPost_ret (results_lb Try.results22 rfl HF.out.1 rfl) rfl ⟨zeroLt, 4, rfl, HD.out, wf_zeroLt, HF.out.2⟩
          · rw [hq, if_pos rfl] at HE
            simp only [hq] at HR
            have HD := hide HE
            clear hq HE
            go_wp2_with (first
              | ((with_reducible refine wpList_load_lt ZO.out.c.wf ?_ ?_ ZO.out.c.all ?_); rfl; rfl)
              | (go_at_call 17; (with_reducible refine (HR _).mono ?_); rintro x w11 ⟨rfl, hb⟩; have ZO := hide (ZO.out.quiet hb); clear hb)
              | ((with_reducible refine wpList_store_lw (y := m) WM.out ?_ ?_ ZO.out.z ?_); rfl; rfl; intro w12 hn hg; have HF := hide (And.intro hn (ZO.out.done hg)); clear hn hg))
            exact bodyPost_ret (results_lb Try.results22 rfl HF.out.1 rfl) rfl ⟨m, 0, rfl, HD.out, WM.out, HF.out.2⟩
        · rw [if_neg h0] at HE
          have t0 : (E != 0) = true := by simpa using h0
          have HD := hide HE
          clear h0 HE
          go_wp2_with (first
            | (go_at_call 67; (with_reducible refine HN.out.mono ?_); rintro x w10 ⟨rfl, hr, hg⟩; have ZO := hide (ZO.out.step hr hg); clear hr hg HN)
            | ((with_reducible refine wpList_build_no ?_ (fill_lz _) ?_); rfl)
            | ((with_reducible refine wpList_store_lw (y := zeroLt) wf_zeroLt ?_ ?_ ZO.out.z ?_); rfl; rfl; intro w12 hn hg; have HF := hide (And.intro hn (ZO.out.done hg)); clear hn hg))
          exact bodyPost_ret (results_lb Try.results22 rfl HF.out.1 rfl) rfl ⟨zeroLt, E, rfl, HD.out, wf_zeroLt, HF.out.2⟩
      · subst hk
        go_upto_region 8 with (fail)
        clear c2
        have HN := hide (rinst_g ZO.out.k)
        go_upto_region 9 with (first
          | (go_at_call 62; (with_reducible refine HN.out.mono ?_); rintro x w6 ⟨vi, i4, e4, rfl, hr, hg, hd, hp⟩; have ZO := hide (ZO.out.step hr hg); have G4 := hide hd; have P4 := hide hp; have c0 : w6.cell? ⟨h, 0, none⟩ = some (.int .i64 8) := ZO.out.c.k1; clear hr hg hd hp HN)
          | ((with_reducible refine wpList_store_li (p := vi.1) (q := vi.2) ?_ ?_ ZO.out.c ?_); rfl; rfl; intro w7 hn hg; have ZO := hide (ZO.out.put hn hg); have c0 : w7.cell? ⟨h, 0, none⟩ = some (.int .i64 8) := ZO.out.c.k1; clear hn hg))
        try simp only [Act.put]
        have HN := hide (rballot_g ZO.out.k)
        go_upto_region 11 with (first
          | (go_at_call 63; (with_reducible refine HN.out.mono ?_); rintro x w6 ⟨vb, i5, e5, rfl, hr, hg, hd, hp⟩; have ZO := hide (ZO.out.step hr hg); have G5 := hide hd; have P5 := hide hp; have c0 : w6.cell? ⟨h, 0, none⟩ = some (.int .i64 8) := ZO.out.c.k1; clear hr hg hd hp HN)
          | ((with_reducible refine wpList_store_lb (p := vb.1) (q := vb.2) ?_ ?_ ZO.out.c ?_); rfl; rfl; intro w7 hn hg; have ZO := hide (ZO.out.put hn hg); have c0 : w7.cell? ⟨h, 0, none⟩ = some (.int .i64 8) := ZO.out.c.k1; clear hn hg))
        try simp only [Act.put]
        go_upto_region 29 with (fail)
        clear c0
        have GM := hide (show Got (dLt0 zs 0) 0 ({ bare0 8 f t with i := (vi.1, vi.2), b := (vb.1, vb.2) } : Lt) i5 e5 from tail_kind HK.out (by unfold dRest; exact (got_opt rfl (G4.out)).bnd ((got_opt rfl (G5.out)).bnd ((got_none rfl).bnd ((got_none rfl).bnd ((got_none rfl).bnd ((got_none rfl).bnd ((got_none rfl).bnd (Got.ok _ _ _)))))))))
        clear HK G4 G5
        have HE := got_end GM.out
        have WM := hide ZO.out.c.wf
        have hN := rend_to ZO.out.k
        obtain ⟨m, hm⟩ : ∃ m, ({ bare0 8 f t with i := (vi.1, vi.2), b := (vb.1, vb.2) } : Lt) = m := ⟨_, rfl⟩
        rw [hm] at HE ZO WM
        clear GM hm
        obtain ⟨E, hE⟩ : ∃ E, rEndE zs i5 e5 = E := ⟨_, rfl⟩
        rw [hE] at HE hN
        have HN := hide hN
        clear hN hE
        by_cases h0 : E = 0
        · subst h0
          rw [if_pos rfl] at HE
          go_upto_region 32 with (go_at_call 67; (with_reducible refine HN.out.mono ?_); rintro x w10 ⟨rfl, hr, hg⟩; have ZO := hide (ZO.out.step hr hg); clear hr hg HN)
          have HR := fun w => rrightletter_any m WM.out w
          cases hq : rightLt m
          · rw [hq, if_neg (by decide)] at HE
            simp only [hq] at HR
            have HD := hide HE
            clear hq HE
            go_wp2_with (first
              | ((with_reducible refine wpList_load_lt ZO.out.c.wf ?_ ?_ ZO.out.c.all ?_); rfl; rfl)
              | (go_at_call 17; (with_reducible refine (HR _).mono ?_); rintro x w11 ⟨rfl, hb⟩; have ZO := hide (ZO.out.quiet hb); clear hb)
              | ((with_reducible refine wpList_build_no ?_ (fill_lz _) ?_); rfl)
              | ((with_reducible refine wpList_store_lw (y := zeroLt) wf_zeroLt ?_ ?_ ZO.out.z ?_); rfl; rfl; intro w12 hn hg; have HF := hide (And.intro hn (ZO.out.done hg)); clear hn hg))
            exact bodyPost_ret (results_lb Try.results22 rfl HF.out.1 rfl) rfl ⟨zeroLt, 4, rfl, HD.out, wf_zeroLt, HF.out.2⟩
          · rw [hq, if_pos rfl] at HE
            simp only [hq] at HR
            have HD := hide HE
            clear hq HE
            go_wp2_with (first
              | ((with_reducible refine wpList_load_lt ZO.out.c.wf ?_ ?_ ZO.out.c.all ?_); rfl; rfl)
              | (go_at_call 17; (with_reducible refine (HR _).mono ?_); rintro x w11 ⟨rfl, hb⟩; have ZO := hide (ZO.out.quiet hb); clear hb)
              | ((with_reducible refine wpList_store_lw (y := m) WM.out ?_ ?_ ZO.out.z ?_); rfl; rfl; intro w12 hn hg; have HF := hide (And.intro hn (ZO.out.done hg)); clear hn hg))
            exact bodyPost_ret (results_lb Try.results22 rfl HF.out.1 rfl) rfl ⟨m, 0, rfl, HD.out, WM.out, HF.out.2⟩
        · rw [if_neg h0] at HE
          have t0 : (E != 0) = true := by simpa using h0
          have HD := hide HE
          clear h0 HE
          go_wp2_with (first
            | (go_at_call 67; (with_reducible refine HN.out.mono ?_); rintro x w10 ⟨rfl, hr, hg⟩; have ZO := hide (ZO.out.step hr hg); clear hr hg HN)
            | ((with_reducible refine wpList_build_no ?_ (fill_lz _) ?_); rfl)
            | ((with_reducible refine wpList_store_lw (y := zeroLt) wf_zeroLt ?_ ?_ ZO.out.z ?_); rfl; rfl; intro w12 hn hg; have HF := hide (And.intro hn (ZO.out.done hg)); clear hn hg))
          exact bodyPost_ret (results_lb Try.results22 rfl HF.out.1 rfl) rfl ⟨zeroLt, E, rfl, HD.out, wf_zeroLt, HF.out.2⟩
      · subst hk
        go_upto_region 23 with (fail)
        clear c2 c0
        have GD := hide (got_nums zs 7 i3 0)
        have ZD := hide (show Zo 59 w w5 w.heap.size g zs (stN zs i3 0 0).1 (stN zs i3 0 0).2 w.heap.size h { bare0 9 f t with d := fillD zs i3 0 7 0 } from ZO.out)
        clear ZO
        go_wp2
        go_loopw [6] (fun j wr => ∃ n : Nat, n ≤ 7 ∧ j = .int .i64 n ∧ Hid (Zo 59 w wr w.heap.size g zs (stN zs i3 0 n).1 (stN zs i3 0 n).2 w.heap.size h { bare0 9 f t with d := fillD zs i3 0 7 n })) (fun j _ => 7 - (intOf j).toNat)
        case atStart => exact ⟨0, by omega, rfl, ZD⟩
        case round =>
          clear ZD
          obtain ⟨n, hn, rfl, ZO⟩ := hrel
          by_cases hlt : n < 7
          · have HN := hide (rnum_to ZO.out.k)
            have n7 : (n : Int) < 7 := by omega
            have n0 : (0 : Int) ≤ (n : Int) := by omega
            have HX := hide (fun (w' : World) (m : Lt) (s : Zo 59 w w' w.heap.size g zs (stN zs i3 0 (n + 1)).1 (stN zs i3 0 (n + 1)).2 w.heap.size h m) (hm : m = { bare0 9 f t with d := fillD zs i3 0 7 (n + 1) }) => (hm ▸ s : Zo 59 w w' w.heap.size g zs (stN zs i3 0 (n + 1)).1 (stN zs i3 0 (n + 1)).2 w.heap.size h { bare0 9 f t with d := fillD zs i3 0 7 (n + 1) }))
            have HS := hide (fillD_set (zs := zs) (i := i3) (e := 0) hlt)
            go_wp2_with (first
              | (go_at_call 61; (with_reducible refine HN.out.mono ?_); rintro x w6 ⟨rfl, hr, hg⟩; have ZO := hide (ZO.out.step hr hg); clear hr hg HN)
              | ((with_reducible refine wpList_store_ldk (k := n) (n := rNumV zs (stN zs i3 0 n).1 (stN zs i3 0 n).2) hlt ?_ ?_ ZO.out.c ?_); rfl; rfl; intro w7 hn hg; have ZO := hide (ZO.out.put hn hg); clear hn hg))
            have ZO2 := hide (HX.out _ _ (by rw [stN_last]; exact ZO.out) (by show ({ bare0 9 f t with d := (fillD zs i3 0 7 n).set n (valN zs i3 0 n) } : Lt) = _; rw [HS.out]))
            clear ZO HX HS
            go_roundw
            case rel => exact ⟨n + 1, by omega, by go_num, ZO2⟩
            case measure => simp [intOf]; omega
          · obtain rfl : n = 7 := by omega
            have n7 : ¬ (((7 : Nat) : Int) < 7) := by omega
            have ZO := hide (show Zo 59 w wr w.heap.size g zs (stN zs i3 0 7).1 (stN zs i3 0 7).2 w.heap.size h { bare0 9 f t with d := valsN zs i3 0 7 } from by have := ZO.out; rw [fillD_all] at this; exact this)
            go_upto_region 29 with (fail)
            have GM := hide (show Got (dLt0 zs 0) 0 ({ bare0 9 f t with d := valsN zs i3 0 7 } : Lt) (stN zs i3 0 7).1 (stN zs i3 0 7).2 from tail_kind HK.out (by unfold dRest; exact (got_none rfl).bnd ((got_none rfl).bnd ((got_none rfl).bnd ((got_none rfl).bnd ((got_none rfl).bnd ((got_opt rfl (GD.out)).bnd ((got_none rfl).bnd (Got.ok _ _ _)))))))))
            clear HK
            have HE := got_end GM.out
            have WM := hide ZO.out.c.wf
            have hN := rend_to ZO.out.k
            obtain ⟨m, hm⟩ : ∃ m, ({ bare0 9 f t with d := valsN zs i3 0 7 } : Lt) = m := ⟨_, rfl⟩
            rw [hm] at HE ZO WM
            clear GM hm
            obtain ⟨E, hE⟩ : ∃ E, rEndE zs (stN zs i3 0 7).1 (stN zs i3 0 7).2 = E := ⟨_, rfl⟩
            rw [hE] at HE hN
            have HN := hide hN
            clear hN hE
            by_cases h0 : E = 0
            · subst h0
              rw [if_pos rfl] at HE
              go_upto_region 32 with (go_at_call 67; (with_reducible refine HN.out.mono ?_); rintro x w10 ⟨rfl, hr, hg⟩; have ZO := hide (ZO.out.step hr hg); clear hr hg HN)
              have HR := fun w => rrightletter_any m WM.out w
              cases hq : rightLt m
              · rw [hq, if_neg (by decide)] at HE
                simp only [hq] at HR
                have HD := hide HE
                clear hq HE
                go_wp2_with (first
                  | ((with_reducible refine wpList_load_lt ZO.out.c.wf ?_ ?_ ZO.out.c.all ?_); rfl; rfl)
                  | (go_at_call 17; (with_reducible refine (HR _).mono ?_); rintro x w11 ⟨rfl, hb⟩; have ZO := hide (ZO.out.quiet hb); clear hb)
                  | ((with_reducible refine wpList_build_no ?_ (fill_lz _) ?_); rfl)
                  | ((with_reducible refine wpList_store_lw (y := zeroLt) wf_zeroLt ?_ ?_ ZO.out.z ?_); rfl; rfl; intro w12 hn hg; have HF := hide (And.intro hn (ZO.out.done hg)); clear hn hg))
                exact bodyPost_ret (results_lb Try.results22 rfl HF.out.1 rfl) rfl ⟨zeroLt, 4, rfl, HD.out, wf_zeroLt, HF.out.2⟩
              · rw [hq, if_pos rfl] at HE
                simp only [hq] at HR
                have HD := hide HE
                clear hq HE
                go_wp2_with (first
                  | ((with_reducible refine wpList_load_lt ZO.out.c.wf ?_ ?_ ZO.out.c.all ?_); rfl; rfl)
                  | (go_at_call 17; (with_reducible refine (HR _).mono ?_); rintro x w11 ⟨rfl, hb⟩; have ZO := hide (ZO.out.quiet hb); clear hb)
                  | ((with_reducible refine wpList_store_lw (y := m) WM.out ?_ ?_ ZO.out.z ?_); rfl; rfl; intro w12 hn hg; have HF := hide (And.intro hn (ZO.out.done hg)); clear hn hg))
                exact bodyPost_ret (results_lb Try.results22 rfl HF.out.1 rfl) rfl ⟨m, 0, rfl, HD.out, WM.out, HF.out.2⟩
            · rw [if_neg h0] at HE
              have t0 : (E != 0) = true := by simpa using h0
              have HD := hide HE
              clear h0 HE
              go_wp2_with (first
                | (go_at_call 67; (with_reducible refine HN.out.mono ?_); rintro x w10 ⟨rfl, hr, hg⟩; have ZO := hide (ZO.out.step hr hg); clear hr hg HN)
                | ((with_reducible refine wpList_build_no ?_ (fill_lz _) ?_); rfl)
                | ((with_reducible refine wpList_store_lw (y := zeroLt) wf_zeroLt ?_ ?_ ZO.out.z ?_); rfl; rfl; intro w12 hn hg; have HF := hide (And.intro hn (ZO.out.done hg)); clear hn hg))
              exact bodyPost_ret (results_lb Try.results22 rfl HF.out.1 rfl) rfl ⟨zeroLt, E, rfl, HD.out, wf_zeroLt, HF.out.2⟩
      · subst hk
        go_upto_region 28 with (fail)
        clear c2
        have HN := hide (rtext_g ZO.out.k 16384)
        go_upto_region 29 with (first
          | (go_at_call 66; (with_reducible refine HN.out.mono ?_); rintro x w6 ⟨vz, i4, e4, rfl, hr, hg, hd, hp⟩; have ZO := hide (ZO.out.step hr hg); have G4 := hide hd; have P4 := hide hp; have c0 : w6.cell? ⟨h, 0, none⟩ = some (.int .i64 10) := ZO.out.c.k1; clear hr hg hd hp HN)
          | ((with_reducible refine wpList_store_lz (z := vz) ?_ ?_ ZO.out.c ?_); rfl; rfl; intro w7 hn hg; have ZO := hide (ZO.out.put hn hg); have c0 : w7.cell? ⟨h, 0, none⟩ = some (.int .i64 10) := ZO.out.c.k1; clear hn hg))
        try simp only [Act.put]
        clear c0
        have GM := hide (show Got (dLt0 zs 0) 0 ({ bare0 10 f t with z := vz } : Lt) i4 e4 from tail_kind HK.out (by unfold dRest; exact (got_none rfl).bnd ((got_none rfl).bnd ((got_none rfl).bnd ((got_none rfl).bnd ((got_none rfl).bnd ((got_none rfl).bnd ((got_opt rfl (G4.out)).bnd (Got.ok _ _ _)))))))))
        clear HK G4
        have HE := got_end GM.out
        have WM := hide ZO.out.c.wf
        have hN := rend_to ZO.out.k
        obtain ⟨m, hm⟩ : ∃ m, ({ bare0 10 f t with z := vz } : Lt) = m := ⟨_, rfl⟩
        rw [hm] at HE ZO WM
        clear GM hm
        obtain ⟨E, hE⟩ : ∃ E, rEndE zs i4 e4 = E := ⟨_, rfl⟩
        rw [hE] at HE hN
        have HN := hide hN
        clear hN hE
        by_cases h0 : E = 0
        · subst h0
          rw [if_pos rfl] at HE
          go_upto_region 32 with (go_at_call 67; (with_reducible refine HN.out.mono ?_); rintro x w10 ⟨rfl, hr, hg⟩; have ZO := hide (ZO.out.step hr hg); clear hr hg HN)
          have HR := fun w => rrightletter_any m WM.out w
          cases hq : rightLt m
          · rw [hq, if_neg (by decide)] at HE
            simp only [hq] at HR
            have HD := hide HE
            clear hq HE
            go_wp2_with (first
              | ((with_reducible refine wpList_load_lt ZO.out.c.wf ?_ ?_ ZO.out.c.all ?_); rfl; rfl)
              | (go_at_call 17; (with_reducible refine (HR _).mono ?_); rintro x w11 ⟨rfl, hb⟩; have ZO := hide (ZO.out.quiet hb); clear hb)
              | ((with_reducible refine wpList_build_no ?_ (fill_lz _) ?_); rfl)
              | ((with_reducible refine wpList_store_lw (y := zeroLt) wf_zeroLt ?_ ?_ ZO.out.z ?_); rfl; rfl; intro w12 hn hg; have HF := hide (And.intro hn (ZO.out.done hg)); clear hn hg))
            exact bodyPost_ret (results_lb Try.results22 rfl HF.out.1 rfl) rfl ⟨zeroLt, 4, rfl, HD.out, wf_zeroLt, HF.out.2⟩
          · rw [hq, if_pos rfl] at HE
            simp only [hq] at HR
            have HD := hide HE
            clear hq HE
            go_wp2_with (first
              | ((with_reducible refine wpList_load_lt ZO.out.c.wf ?_ ?_ ZO.out.c.all ?_); rfl; rfl)
              | (go_at_call 17; (with_reducible refine (HR _).mono ?_); rintro x w11 ⟨rfl, hb⟩; have ZO := hide (ZO.out.quiet hb); clear hb)
              | ((with_reducible refine wpList_store_lw (y := m) WM.out ?_ ?_ ZO.out.z ?_); rfl; rfl; intro w12 hn hg; have HF := hide (And.intro hn (ZO.out.done hg)); clear hn hg))
            exact bodyPost_ret (results_lb Try.results22 rfl HF.out.1 rfl) rfl ⟨m, 0, rfl, HD.out, WM.out, HF.out.2⟩
        · rw [if_neg h0] at HE
          have t0 : (E != 0) = true := by simpa using h0
          have HD := hide HE
          clear h0 HE
          go_wp2_with (first
            | (go_at_call 67; (with_reducible refine HN.out.mono ?_); rintro x w10 ⟨rfl, hr, hg⟩; have ZO := hide (ZO.out.step hr hg); clear hr hg HN)
            | ((with_reducible refine wpList_build_no ?_ (fill_lz _) ?_); rfl)
            | ((with_reducible refine wpList_store_lw (y := zeroLt) wf_zeroLt ?_ ?_ ZO.out.z ?_); rfl; rfl; intro w12 hn hg; have HF := hide (And.intro hn (ZO.out.done hg)); clear hn hg))
          exact bodyPost_ret (results_lb Try.results22 rfl HF.out.1 rfl) rfl ⟨zeroLt, E, rfl, HD.out, wf_zeroLt, HF.out.2⟩
      · subst hk
        go_upto_region 23 with (fail)
        clear c2 c0
        have GD := hide (got_nums zs 7 i3 0)
        have ZD := hide (show Zo 59 w w5 w.heap.size g zs (stN zs i3 0 0).1 (stN zs i3 0 0).2 w.heap.size h { bare0 11 f t with d := fillD zs i3 0 7 0 } from ZO.out)
        clear ZO
        go_wp2
        go_loopw [6] (fun j wr => ∃ n : Nat, n ≤ 7 ∧ j = .int .i64 n ∧ Hid (Zo 59 w wr w.heap.size g zs (stN zs i3 0 n).1 (stN zs i3 0 n).2 w.heap.size h { bare0 11 f t with d := fillD zs i3 0 7 n })) (fun j _ => 7 - (intOf j).toNat)
        case atStart => exact ⟨0, by omega, rfl, ZD⟩
        case round =>
          clear ZD
          obtain ⟨n, hn, rfl, ZO⟩ := hrel
          by_cases hlt : n < 7
          · have HN := hide (rnum_to ZO.out.k)
            have n7 : (n : Int) < 7 := by omega
            have n0 : (0 : Int) ≤ (n : Int) := by omega
            have HX := hide (fun (w' : World) (m : Lt) (s : Zo 59 w w' w.heap.size g zs (stN zs i3 0 (n + 1)).1 (stN zs i3 0 (n + 1)).2 w.heap.size h m) (hm : m = { bare0 11 f t with d := fillD zs i3 0 7 (n + 1) }) => (hm ▸ s : Zo 59 w w' w.heap.size g zs (stN zs i3 0 (n + 1)).1 (stN zs i3 0 (n + 1)).2 w.heap.size h { bare0 11 f t with d := fillD zs i3 0 7 (n + 1) }))
            have HS := hide (fillD_set (zs := zs) (i := i3) (e := 0) hlt)
            go_wp2_with (first
              | (go_at_call 61; (with_reducible refine HN.out.mono ?_); rintro x w6 ⟨rfl, hr, hg⟩; have ZO := hide (ZO.out.step hr hg); clear hr hg HN)
              | ((with_reducible refine wpList_store_ldk (k := n) (n := rNumV zs (stN zs i3 0 n).1 (stN zs i3 0 n).2) hlt ?_ ?_ ZO.out.c ?_); rfl; rfl; intro w7 hn hg; have ZO := hide (ZO.out.put hn hg); clear hn hg))
            have ZO2 := hide (HX.out _ _ (by rw [stN_last]; exact ZO.out) (by show ({ bare0 11 f t with d := (fillD zs i3 0 7 n).set n (valN zs i3 0 n) } : Lt) = _; rw [HS.out]))
            clear ZO HX HS
            go_roundw
            case rel => exact ⟨n + 1, by omega, by go_num, ZO2⟩
            case measure => simp [intOf]; omega
          · obtain rfl : n = 7 := by omega
            have n7 : ¬ (((7 : Nat) : Int) < 7) := by omega
            have ZO := hide (show Zo 59 w wr w.heap.size g zs (stN zs i3 0 7).1 (stN zs i3 0 7).2 w.heap.size h { bare0 11 f t with d := valsN zs i3 0 7 } from by have := ZO.out; rw [fillD_all] at this; exact this)
            go_upto_region 29 with (fail)
            have GM := hide (show Got (dLt0 zs 0) 0 ({ bare0 11 f t with d := valsN zs i3 0 7 } : Lt) (stN zs i3 0 7).1 (stN zs i3 0 7).2 from tail_kind HK.out (by unfold dRest; exact (got_none rfl).bnd ((got_none rfl).bnd ((got_none rfl).bnd ((got_none rfl).bnd ((got_none rfl).bnd ((got_opt rfl (GD.out)).bnd ((got_none rfl).bnd (Got.ok _ _ _)))))))))
            clear HK
            have HE := got_end GM.out
            have WM := hide ZO.out.c.wf
            have hN := rend_to ZO.out.k
            obtain ⟨m, hm⟩ : ∃ m, ({ bare0 11 f t with d := valsN zs i3 0 7 } : Lt) = m := ⟨_, rfl⟩
            rw [hm] at HE ZO WM
            clear GM hm
            obtain ⟨E, hE⟩ : ∃ E, rEndE zs (stN zs i3 0 7).1 (stN zs i3 0 7).2 = E := ⟨_, rfl⟩
            rw [hE] at HE hN
            have HN := hide hN
            clear hN hE
            by_cases h0 : E = 0
            · subst h0
              rw [if_pos rfl] at HE
              go_upto_region 32 with (go_at_call 67; (with_reducible refine HN.out.mono ?_); rintro x w10 ⟨rfl, hr, hg⟩; have ZO := hide (ZO.out.step hr hg); clear hr hg HN)
              have HR := fun w => rrightletter_any m WM.out w
              cases hq : rightLt m
              · rw [hq, if_neg (by decide)] at HE
                simp only [hq] at HR
                have HD := hide HE
                clear hq HE
                go_wp2_with (first
                  | ((with_reducible refine wpList_load_lt ZO.out.c.wf ?_ ?_ ZO.out.c.all ?_); rfl; rfl)
                  | (go_at_call 17; (with_reducible refine (HR _).mono ?_); rintro x w11 ⟨rfl, hb⟩; have ZO := hide (ZO.out.quiet hb); clear hb)
                  | ((with_reducible refine wpList_build_no ?_ (fill_lz _) ?_); rfl)
                  | ((with_reducible refine wpList_store_lw (y := zeroLt) wf_zeroLt ?_ ?_ ZO.out.z ?_); rfl; rfl; intro w12 hn hg; have HF := hide (And.intro hn (ZO.out.done hg)); clear hn hg))
                exact bodyPost_ret (results_lb Try.results22 rfl HF.out.1 rfl) rfl ⟨zeroLt, 4, rfl, HD.out, wf_zeroLt, HF.out.2⟩
              · rw [hq, if_pos rfl] at HE
                simp only [hq] at HR
                have HD := hide HE
                clear hq HE
                go_wp2_with (first
                  | ((with_reducible refine wpList_load_lt ZO.out.c.wf ?_ ?_ ZO.out.c.all ?_); rfl; rfl)
                  | (go_at_call 17; (with_reducible refine (HR _).mono ?_); rintro x w11 ⟨rfl, hb⟩; have ZO := hide (ZO.out.quiet hb); clear hb)
                  | ((with_reducible refine wpList_store_lw (y := m) WM.out ?_ ?_ ZO.out.z ?_); rfl; rfl; intro w12 hn hg; have HF := hide (And.intro hn (ZO.out.done hg)); clear hn hg))
                exact bodyPost_ret (results_lb Try.results22 rfl HF.out.1 rfl) rfl ⟨m, 0, rfl, HD.out, WM.out, HF.out.2⟩
            · rw [if_neg h0] at HE
              have t0 : (E != 0) = true := by simpa using h0
              have HD := hide HE
              clear h0 HE
              go_wp2_with (first
                | (go_at_call 67; (with_reducible refine HN.out.mono ?_); rintro x w10 ⟨rfl, hr, hg⟩; have ZO := hide (ZO.out.step hr hg); clear hr hg HN)
                | ((with_reducible refine wpList_build_no ?_ (fill_lz _) ?_); rfl)
                | ((with_reducible refine wpList_store_lw (y := zeroLt) wf_zeroLt ?_ ?_ ZO.out.z ?_); rfl; rfl; intro w12 hn hg; have HF := hide (And.intro hn (ZO.out.done hg)); clear hn hg))
              exact bodyPost_ret (results_lb Try.results22 rfl HF.out.1 rfl) rfl ⟨zeroLt, E, rfl, HD.out, wf_zeroLt, HF.out.2⟩
    · have HD := hide (show decLt zs = (zeroLt, 4) from by
        have t3 : Got (if 1 ≤ k ∧ k ≤ 11 then (.ok ((k, f, t), i3) : Rdm (Int × Int × Int)) else .error 4) 0 (k, f, t) i3 4 := by rw [if_neg hk]; exact ⟨fun h => absurd rfl h, fun _ => ⟨rfl, by decide⟩⟩
        have H : Got (dKind zs 0) 0 (k, f, t) i3 4 := G1.out.bnd (G2.out.bnd (G3.out.bnd t3))
        have H2 : Got (dLt0 zs 0) 0 zeroLt i3 4 := by rw [dLt0_eq]; exact H.bnd (got_wrong (by decide) _ _)
        rw [got_end H2]
        have e4 : rEndE zs i3 4 = 4 := by unfold rEndE; rw [if_neg (by decide)]
        rw [e4, if_neg (by decide)])
      clear G1 G2 G3
      have tk : (decide (k < 1) || decide (11 < k)) = true := by simp; omega
      by_cases hk1 : k < 1
      · go_wp2_with (first
          | ((with_reducible refine wpList_build_no ?_ (fill_lz _) ?_); rfl)
          | ((with_reducible refine wpList_store_lw (y := zeroLt) wf_zeroLt ?_ ?_ ZO.out.z ?_); rfl; rfl; intro w9 hn hg; have HE := hide (And.intro hn (ZO.out.done hg)); clear hn hg))
        exact bodyPost_ret (results_lb Try.results22 rfl HE.out.1 rfl) rfl ⟨zeroLt, 4, rfl, HD.out, wf_zeroLt, HE.out.2⟩
      · have hk2 : 11 < k := by omega
        go_wp2_with (first
          | ((with_reducible refine wpList_build_no ?_ (fill_lz _) ?_); rfl)
          | ((with_reducible refine wpList_store_lw (y := zeroLt) wf_zeroLt ?_ ?_ ZO.out.z ?_); rfl; rfl; intro w9 hn hg; have HE := hide (And.intro hn (ZO.out.done hg)); clear hn hg))
        exact bodyPost_ret (results_lb Try.results22 rfl HE.out.1 rfl) rfl ⟨zeroLt, 4, rfl, HD.out, wf_zeroLt, HE.out.2⟩
  · have te : (e3 == 0) = false := by simpa using he
    have HK := hide (show Got (dKind zs 0) 0 (k, f, t) i3 e3 from G1.out.bnd (G2.out.bnd (G3.out.bnd (got_wrong he _ _))))
    clear G1 G2 G3
    by_cases hk : 1 ≤ k ∧ k ≤ 11
    · obtain hk | hk | hk | hk | hk | hk | hk | hk | hk | hk | hk : k = 1 ∨ k = 2 ∨ k = 3 ∨ k = 4 ∨ k = 5 ∨ k = 6 ∨ k = 7 ∨ k = 8 ∨ k = 9 ∨ k = 10 ∨ k = 11 := by omega
      · subst hk
        go_upto_region 8 with (fail)
        clear c2
        have HN := hide (rinst_g ZO.out.k)
        go_upto_region 9 with (first
          | (go_at_call 62; (with_reducible refine HN.out.mono ?_); rintro x w6 ⟨vi, i4, e4, rfl, hr, hg, hd, hp⟩; have ZO := hide (ZO.out.step hr hg); have G4 := hide hd; have P4 := hide hp; have c0 : w6.cell? ⟨h, 0, none⟩ = some (.int .i64 1) := ZO.out.c.k1; clear hr hg hd hp HN)
          | ((with_reducible refine wpList_store_li (p := vi.1) (q := vi.2) ?_ ?_ ZO.out.c ?_); rfl; rfl; intro w7 hn hg; have ZO := hide (ZO.out.put hn hg); have c0 : w7.cell? ⟨h, 0, none⟩ = some (.int .i64 1) := ZO.out.c.k1; clear hn hg))
        try simp only [Act.put]
        have HN := hide (rballot_g ZO.out.k)
        go_upto_region 11 with (first
          | (go_at_call 63; (with_reducible refine HN.out.mono ?_); rintro x w6 ⟨vb, i5, e5, rfl, hr, hg, hd, hp⟩; have ZO := hide (ZO.out.step hr hg); have G5 := hide hd; have P5 := hide hp; have c0 : w6.cell? ⟨h, 0, none⟩ = some (.int .i64 1) := ZO.out.c.k1; clear hr hg hd hp HN)
          | ((with_reducible refine wpList_store_lb (p := vb.1) (q := vb.2) ?_ ?_ ZO.out.c ?_); rfl; rfl; intro w7 hn hg; have ZO := hide (ZO.out.put hn hg); have c0 : w7.cell? ⟨h, 0, none⟩ = some (.int .i64 1) := ZO.out.c.k1; clear hn hg))
        try simp only [Act.put]
        go_upto_region 15 with (fail)
        have HN := hide (rcmd_g ZO.out.k)
        go_upto_region 16 with (first
          | (go_at_call 64; (with_reducible refine HN.out.mono ?_); rintro x w6 ⟨vc, i6, e6, rfl, hr, hg, hd, hp⟩; have ZO := hide (ZO.out.step hr hg); have G6 := hide hd; have P6 := hide hp; have c0 : w6.cell? ⟨h, 0, none⟩ = some (.int .i64 1) := ZO.out.c.k1; clear hr hg hd hp HN)
          | ((with_reducible refine wpList_store_lc (c := vc) ?_ ?_ ZO.out.c ?_); rfl; rfl; intro w7 hn hg; have ZO := hide (ZO.out.put hn hg); have c0 : w7.cell? ⟨h, 0, none⟩ = some (.int .i64 1) := ZO.out.c.k1; clear hn hg))
        try simp only [Act.put]
        have HN := hide (rattr_g ZO.out.k)
        go_upto_region 29 with (first
          | (go_at_call 65; (with_reducible refine HN.out.mono ?_); rintro x w6 ⟨va, i7, e7, rfl, hr, hg, hd, hp⟩; have ZO := hide (ZO.out.step hr hg); have G7 := hide hd; have P7 := hide hp; have c0 : w6.cell? ⟨h, 0, none⟩ = some (.int .i64 1) := ZO.out.c.k1; clear hr hg hd hp HN)
          | ((with_reducible refine wpList_store_la (y := va) P7.out ?_ ?_ ZO.out.c ?_); rfl; rfl; intro w7 hn hg; have ZO := hide (ZO.out.put hn hg); have c0 : w7.cell? ⟨h, 0, none⟩ = some (.int .i64 1) := ZO.out.c.k1; clear hn hg))
        try simp only [Act.put]
        clear c0
        have GM := hide (show Got (dLt0 zs 0) 0 ({ bare0 1 f t with i := (vi.1, vi.2), b := (vb.1, vb.2), c := vc, a := va } : Lt) i7 e7 from tail_kind HK.out (by unfold dRest; exact (got_opt rfl (G4.out)).bnd ((got_opt rfl (G5.out)).bnd ((got_opt rfl (G6.out)).bnd ((got_opt rfl (G7.out)).bnd ((got_none rfl).bnd ((got_none rfl).bnd ((got_none rfl).bnd (Got.ok _ _ _)))))))))
        clear HK G4 G5 G6 G7
        have HE := got_end GM.out
        have WM := hide ZO.out.c.wf
        have hN := rend_to ZO.out.k
        obtain ⟨m, hm⟩ : ∃ m, ({ bare0 1 f t with i := (vi.1, vi.2), b := (vb.1, vb.2), c := vc, a := va } : Lt) = m := ⟨_, rfl⟩
        rw [hm] at HE ZO WM
        clear GM hm
        obtain ⟨E, hE⟩ : ∃ E, rEndE zs i7 e7 = E := ⟨_, rfl⟩
        rw [hE] at HE hN
        have HN := hide hN
        clear hN hE
        by_cases h0 : E = 0
        · subst h0
          rw [if_pos rfl] at HE
          go_upto_region 32 with (go_at_call 67; (with_reducible refine HN.out.mono ?_); rintro x w10 ⟨rfl, hr, hg⟩; have ZO := hide (ZO.out.step hr hg); clear hr hg HN)
          have HR := fun w => rrightletter_any m WM.out w
          cases hq : rightLt m
          · rw [hq, if_neg (by decide)] at HE
            simp only [hq] at HR
            have HD := hide HE
            clear hq HE
            go_wp2_with (first
              | ((with_reducible refine wpList_load_lt ZO.out.c.wf ?_ ?_ ZO.out.c.all ?_); rfl; rfl)
              | (go_at_call 17; (with_reducible refine (HR _).mono ?_); rintro x w11 ⟨rfl, hb⟩; have ZO := hide (ZO.out.quiet hb); clear hb)
              | ((with_reducible refine wpList_build_no ?_ (fill_lz _) ?_); rfl)
              | ((with_reducible refine wpList_store_lw (y := zeroLt) wf_zeroLt ?_ ?_ ZO.out.z ?_); rfl; rfl; intro w12 hn hg; have HF := hide (And.intro hn (ZO.out.done hg)); clear hn hg))
            exact bodyPost_ret (results_lb Try.results22 rfl HF.out.1 rfl) rfl ⟨zeroLt, 4, rfl, HD.out, wf_zeroLt, HF.out.2⟩
          · rw [hq, if_pos rfl] at HE
            simp only [hq] at HR
            have HD := hide HE
            clear hq HE
            go_wp2_with (first
              | ((with_reducible refine wpList_load_lt ZO.out.c.wf ?_ ?_ ZO.out.c.all ?_); rfl; rfl)
              | (go_at_call 17; (with_reducible refine (HR _).mono ?_); rintro x w11 ⟨rfl, hb⟩; have ZO := hide (ZO.out.quiet hb); clear hb)
              | ((with_reducible refine wpList_store_lw (y := m) WM.out ?_ ?_ ZO.out.z ?_); rfl; rfl; intro w12 hn hg; have HF := hide (And.intro hn (ZO.out.done hg)); clear hn hg))
            exact bodyPost_ret (results_lb Try.results22 rfl HF.out.1 rfl) rfl ⟨m, 0, rfl, HD.out, WM.out, HF.out.2⟩
        · rw [if_neg h0] at HE
          have t0 : (E != 0) = true := by simpa using h0
          have HD := hide HE
          clear h0 HE
          go_wp2_with (first
            | (go_at_call 67; (with_reducible refine HN.out.mono ?_); rintro x w10 ⟨rfl, hr, hg⟩; have ZO := hide (ZO.out.step hr hg); clear hr hg HN)
            | ((with_reducible refine wpList_build_no ?_ (fill_lz _) ?_); rfl)
            | ((with_reducible refine wpList_store_lw (y := zeroLt) wf_zeroLt ?_ ?_ ZO.out.z ?_); rfl; rfl; intro w12 hn hg; have HF := hide (And.intro hn (ZO.out.done hg)); clear hn hg))
          exact bodyPost_ret (results_lb Try.results22 rfl HF.out.1 rfl) rfl ⟨zeroLt, E, rfl, HD.out, wf_zeroLt, HF.out.2⟩
      · subst hk
        go_upto_region 8 with (fail)
        clear c2
        have HN := hide (rinst_g ZO.out.k)
        go_upto_region 9 with (first
          | (go_at_call 62; (with_reducible refine HN.out.mono ?_); rintro x w6 ⟨vi, i4, e4, rfl, hr, hg, hd, hp⟩; have ZO := hide (ZO.out.step hr hg); have G4 := hide hd; have P4 := hide hp; have c0 : w6.cell? ⟨h, 0, none⟩ = some (.int .i64 2) := ZO.out.c.k1; clear hr hg hd hp HN)
          | ((with_reducible refine wpList_store_li (p := vi.1) (q := vi.2) ?_ ?_ ZO.out.c ?_); rfl; rfl; intro w7 hn hg; have ZO := hide (ZO.out.put hn hg); have c0 : w7.cell? ⟨h, 0, none⟩ = some (.int .i64 2) := ZO.out.c.k1; clear hn hg))
        try simp only [Act.put]
        have HN := hide (rballot_g ZO.out.k)
        go_upto_region 11 with (first
          | (go_at_call 63; (with_reducible refine HN.out.mono ?_); rintro x w6 ⟨vb, i5, e5, rfl, hr, hg, hd, hp⟩; have ZO := hide (ZO.out.step hr hg); have G5 := hide hd; have P5 := hide hp; have c0 : w6.cell? ⟨h, 0, none⟩ = some (.int .i64 2) := ZO.out.c.k1; clear hr hg hd hp HN)
          | ((with_reducible refine wpList_store_lb (p := vb.1) (q := vb.2) ?_ ?_ ZO.out.c ?_); rfl; rfl; intro w7 hn hg; have ZO := hide (ZO.out.put hn hg); have c0 : w7.cell? ⟨h, 0, none⟩ = some (.int .i64 2) := ZO.out.c.k1; clear hn hg))
        try simp only [Act.put]
        go_upto_region 18 with (fail)
        have HN := hide (rattr_g ZO.out.k)
        go_upto_region 29 with (first
          | (go_at_call 65; (with_reducible refine HN.out.mono ?_); rintro x w6 ⟨va, i6, e6, rfl, hr, hg, hd, hp⟩; have ZO := hide (ZO.out.step hr hg); have G6 := hide hd; have P6 := hide hp; have c0 : w6.cell? ⟨h, 0, none⟩ = some (.int .i64 2) := ZO.out.c.k1; clear hr hg hd hp HN)
          | ((with_reducible refine wpList_store_la (y := va) P6.out ?_ ?_ ZO.out.c ?_); rfl; rfl; intro w7 hn hg; have ZO := hide (ZO.out.put hn hg); have c0 : w7.cell? ⟨h, 0, none⟩ = some (.int .i64 2) := ZO.out.c.k1; clear hn hg))
        try simp only [Act.put]
        clear c0
        have GM := hide (show Got (dLt0 zs 0) 0 ({ bare0 2 f t with i := (vi.1, vi.2), b := (vb.1, vb.2), a := va } : Lt) i6 e6 from tail_kind HK.out (by unfold dRest; exact (got_opt rfl (G4.out)).bnd ((got_opt rfl (G5.out)).bnd ((got_none rfl).bnd ((got_opt rfl (G6.out)).bnd ((got_none rfl).bnd ((got_none rfl).bnd ((got_none rfl).bnd (Got.ok _ _ _)))))))))
        clear HK G4 G5 G6
        have HE := got_end GM.out
        have WM := hide ZO.out.c.wf
        have hN := rend_to ZO.out.k
        obtain ⟨m, hm⟩ : ∃ m, ({ bare0 2 f t with i := (vi.1, vi.2), b := (vb.1, vb.2), a := va } : Lt) = m := ⟨_, rfl⟩
        rw [hm] at HE ZO WM
        clear GM hm
        obtain ⟨E, hE⟩ : ∃ E, rEndE zs i6 e6 = E := ⟨_, rfl⟩
        rw [hE] at HE hN
        have HN := hide hN
        clear hN hE
        by_cases h0 : E = 0
        · subst h0
          rw [if_pos rfl] at HE
          go_upto_region 32 with (go_at_call 67; (with_reducible refine HN.out.mono ?_); rintro x w10 ⟨rfl, hr, hg⟩; have ZO := hide (ZO.out.step hr hg); clear hr hg HN)
          have HR := fun w => rrightletter_any m WM.out w
          cases hq : rightLt m
          · rw [hq, if_neg (by decide)] at HE
            simp only [hq] at HR
            have HD := hide HE
            clear hq HE
            go_wp2_with (first
              | ((with_reducible refine wpList_load_lt ZO.out.c.wf ?_ ?_ ZO.out.c.all ?_); rfl; rfl)
              | (go_at_call 17; (with_reducible refine (HR _).mono ?_); rintro x w11 ⟨rfl, hb⟩; have ZO := hide (ZO.out.quiet hb); clear hb)
              | ((with_reducible refine wpList_build_no ?_ (fill_lz _) ?_); rfl)
              | ((with_reducible refine wpList_store_lw (y := zeroLt) wf_zeroLt ?_ ?_ ZO.out.z ?_); rfl; rfl; intro w12 hn hg; have HF := hide (And.intro hn (ZO.out.done hg)); clear hn hg))
            exact bodyPost_ret (results_lb Try.results22 rfl HF.out.1 rfl) rfl ⟨zeroLt, 4, rfl, HD.out, wf_zeroLt, HF.out.2⟩
          · rw [hq, if_pos rfl] at HE
            simp only [hq] at HR
            have HD := hide HE
            clear hq HE
            go_wp2_with (first
              | ((with_reducible refine wpList_load_lt ZO.out.c.wf ?_ ?_ ZO.out.c.all ?_); rfl; rfl)
              | (go_at_call 17; (with_reducible refine (HR _).mono ?_); rintro x w11 ⟨rfl, hb⟩; have ZO := hide (ZO.out.quiet hb); clear hb)
              | ((with_reducible refine wpList_store_lw (y := m) WM.out ?_ ?_ ZO.out.z ?_); rfl; rfl; intro w12 hn hg; have HF := hide (And.intro hn (ZO.out.done hg)); clear hn hg))
            exact bodyPost_ret (results_lb Try.results22 rfl HF.out.1 rfl) rfl ⟨m, 0, rfl, HD.out, WM.out, HF.out.2⟩
        · rw [if_neg h0] at HE
          have t0 : (E != 0) = true := by simpa using h0
          have HD := hide HE
          clear h0 HE
          go_wp2_with (first
            | (go_at_call 67; (with_reducible refine HN.out.mono ?_); rintro x w10 ⟨rfl, hr, hg⟩; have ZO := hide (ZO.out.step hr hg); clear hr hg HN)
            | ((with_reducible refine wpList_build_no ?_ (fill_lz _) ?_); rfl)
            | ((with_reducible refine wpList_store_lw (y := zeroLt) wf_zeroLt ?_ ?_ ZO.out.z ?_); rfl; rfl; intro w12 hn hg; have HF := hide (And.intro hn (ZO.out.done hg)); clear hn hg))
          exact bodyPost_ret (results_lb Try.results22 rfl HF.out.1 rfl) rfl ⟨zeroLt, E, rfl, HD.out, wf_zeroLt, HF.out.2⟩
      · subst hk
        go_upto_region 8 with (fail)
        clear c2
        have HN := hide (rinst_g ZO.out.k)
        go_upto_region 9 with (first
          | (go_at_call 62; (with_reducible refine HN.out.mono ?_); rintro x w6 ⟨vi, i4, e4, rfl, hr, hg, hd, hp⟩; have ZO := hide (ZO.out.step hr hg); have G4 := hide hd; have P4 := hide hp; have c0 : w6.cell? ⟨h, 0, none⟩ = some (.int .i64 3) := ZO.out.c.k1; clear hr hg hd hp HN)
          | ((with_reducible refine wpList_store_li (p := vi.1) (q := vi.2) ?_ ?_ ZO.out.c ?_); rfl; rfl; intro w7 hn hg; have ZO := hide (ZO.out.put hn hg); have c0 : w7.cell? ⟨h, 0, none⟩ = some (.int .i64 3) := ZO.out.c.k1; clear hn hg))
        try simp only [Act.put]
        have HN := hide (rballot_g ZO.out.k)
        go_upto_region 11 with (first
          | (go_at_call 63; (with_reducible refine HN.out.mono ?_); rintro x w6 ⟨vb, i5, e5, rfl, hr, hg, hd, hp⟩; have ZO := hide (ZO.out.step hr hg); have G5 := hide hd; have P5 := hide hp; have c0 : w6.cell? ⟨h, 0, none⟩ = some (.int .i64 3) := ZO.out.c.k1; clear hr hg hd hp HN)
          | ((with_reducible refine wpList_store_lb (p := vb.1) (q := vb.2) ?_ ?_ ZO.out.c ?_); rfl; rfl; intro w7 hn hg; have ZO := hide (ZO.out.put hn hg); have c0 : w7.cell? ⟨h, 0, none⟩ = some (.int .i64 3) := ZO.out.c.k1; clear hn hg))
        try simp only [Act.put]
        go_upto_region 15 with (fail)
        have HN := hide (rcmd_g ZO.out.k)
        go_upto_region 16 with (first
          | (go_at_call 64; (with_reducible refine HN.out.mono ?_); rintro x w6 ⟨vc, i6, e6, rfl, hr, hg, hd, hp⟩; have ZO := hide (ZO.out.step hr hg); have G6 := hide hd; have P6 := hide hp; have c0 : w6.cell? ⟨h, 0, none⟩ = some (.int .i64 3) := ZO.out.c.k1; clear hr hg hd hp HN)
          | ((with_reducible refine wpList_store_lc (c := vc) ?_ ?_ ZO.out.c ?_); rfl; rfl; intro w7 hn hg; have ZO := hide (ZO.out.put hn hg); have c0 : w7.cell? ⟨h, 0, none⟩ = some (.int .i64 3) := ZO.out.c.k1; clear hn hg))
        try simp only [Act.put]
        have HN := hide (rattr_g ZO.out.k)
        go_upto_region 29 with (first
          | (go_at_call 65; (with_reducible refine HN.out.mono ?_); rintro x w6 ⟨va, i7, e7, rfl, hr, hg, hd, hp⟩; have ZO := hide (ZO.out.step hr hg); have G7 := hide hd; have P7 := hide hp; have c0 : w6.cell? ⟨h, 0, none⟩ = some (.int .i64 3) := ZO.out.c.k1; clear hr hg hd hp HN)
          | ((with_reducible refine wpList_store_la (y := va) P7.out ?_ ?_ ZO.out.c ?_); rfl; rfl; intro w7 hn hg; have ZO := hide (ZO.out.put hn hg); have c0 : w7.cell? ⟨h, 0, none⟩ = some (.int .i64 3) := ZO.out.c.k1; clear hn hg))
        try simp only [Act.put]
        clear c0
        have GM := hide (show Got (dLt0 zs 0) 0 ({ bare0 3 f t with i := (vi.1, vi.2), b := (vb.1, vb.2), c := vc, a := va } : Lt) i7 e7 from tail_kind HK.out (by unfold dRest; exact (got_opt rfl (G4.out)).bnd ((got_opt rfl (G5.out)).bnd ((got_opt rfl (G6.out)).bnd ((got_opt rfl (G7.out)).bnd ((got_none rfl).bnd ((got_none rfl).bnd ((got_none rfl).bnd (Got.ok _ _ _)))))))))
        clear HK G4 G5 G6 G7
        have HE := got_end GM.out
        have WM := hide ZO.out.c.wf
        have hN := rend_to ZO.out.k
        obtain ⟨m, hm⟩ : ∃ m, ({ bare0 3 f t with i := (vi.1, vi.2), b := (vb.1, vb.2), c := vc, a := va } : Lt) = m := ⟨_, rfl⟩
        rw [hm] at HE ZO WM
        clear GM hm
        obtain ⟨E, hE⟩ : ∃ E, rEndE zs i7 e7 = E := ⟨_, rfl⟩
        rw [hE] at HE hN
        have HN := hide hN
        clear hN hE
        by_cases h0 : E = 0
        · subst h0
          rw [if_pos rfl] at HE
          go_upto_region 32 with (go_at_call 67; (with_reducible refine HN.out.mono ?_); rintro x w10 ⟨rfl, hr, hg⟩; have ZO := hide (ZO.out.step hr hg); clear hr hg HN)
          have HR := fun w => rrightletter_any m WM.out w
          cases hq : rightLt m
          · rw [hq, if_neg (by decide)] at HE
            simp only [hq] at HR
            have HD := hide HE
            clear hq HE
            go_wp2_with (first
              | ((with_reducible refine wpList_load_lt ZO.out.c.wf ?_ ?_ ZO.out.c.all ?_); rfl; rfl)
              | (go_at_call 17; (with_reducible refine (HR _).mono ?_); rintro x w11 ⟨rfl, hb⟩; have ZO := hide (ZO.out.quiet hb); clear hb)
              | ((with_reducible refine wpList_build_no ?_ (fill_lz _) ?_); rfl)
              | ((with_reducible refine wpList_store_lw (y := zeroLt) wf_zeroLt ?_ ?_ ZO.out.z ?_); rfl; rfl; intro w12 hn hg; have HF := hide (And.intro hn (ZO.out.done hg)); clear hn hg))
            exact bodyPost_ret (results_lb Try.results22 rfl HF.out.1 rfl) rfl ⟨zeroLt, 4, rfl, HD.out, wf_zeroLt, HF.out.2⟩
          · rw [hq, if_pos rfl] at HE
            simp only [hq] at HR
            have HD := hide HE
            clear hq HE
            go_wp2_with (first
              | ((with_reducible refine wpList_load_lt ZO.out.c.wf ?_ ?_ ZO.out.c.all ?_); rfl; rfl)
              | (go_at_call 17; (with_reducible refine (HR _).mono ?_); rintro x w11 ⟨rfl, hb⟩; have ZO := hide (ZO.out.quiet hb); clear hb)
              | ((with_reducible refine wpList_store_lw (y := m) WM.out ?_ ?_ ZO.out.z ?_); rfl; rfl; intro w12 hn hg; have HF := hide (And.intro hn (ZO.out.done hg)); clear hn hg))
            exact bodyPost_ret (results_lb Try.results22 rfl HF.out.1 rfl) rfl ⟨m, 0, rfl, HD.out, WM.out, HF.out.2⟩
        · rw [if_neg h0] at HE
          have t0 : (E != 0) = true := by simpa using h0
          have HD := hide HE
          clear h0 HE
          go_wp2_with (first
            | (go_at_call 67; (with_reducible refine HN.out.mono ?_); rintro x w10 ⟨rfl, hr, hg⟩; have ZO := hide (ZO.out.step hr hg); clear hr hg HN)
            | ((with_reducible refine wpList_build_no ?_ (fill_lz _) ?_); rfl)
            | ((with_reducible refine wpList_store_lw (y := zeroLt) wf_zeroLt ?_ ?_ ZO.out.z ?_); rfl; rfl; intro w12 hn hg; have HF := hide (And.intro hn (ZO.out.done hg)); clear hn hg))
          exact bodyPost_ret (results_lb Try.results22 rfl HF.out.1 rfl) rfl ⟨zeroLt, E, rfl, HD.out, wf_zeroLt, HF.out.2⟩
      · subst hk
        go_upto_region 8 with (fail)
        clear c2
        have HN := hide (rinst_g ZO.out.k)
        go_upto_region 9 with (first
          | (go_at_call 62; (with_reducible refine HN.out.mono ?_); rintro x w6 ⟨vi, i4, e4, rfl, hr, hg, hd, hp⟩; have ZO := hide (ZO.out.step hr hg); have G4 := hide hd; have P4 := hide hp; have c0 : w6.cell? ⟨h, 0, none⟩ = some (.int .i64 4) := ZO.out.c.k1; clear hr hg hd hp HN)
          | ((with_reducible refine wpList_store_li (p := vi.1) (q := vi.2) ?_ ?_ ZO.out.c ?_); rfl; rfl; intro w7 hn hg; have ZO := hide (ZO.out.put hn hg); have c0 : w7.cell? ⟨h, 0, none⟩ = some (.int .i64 4) := ZO.out.c.k1; clear hn hg))
        try simp only [Act.put]
        have HN := hide (rballot_g ZO.out.k)
        go_upto_region 11 with (first
          | (go_at_call 63; (with_reducible refine HN.out.mono ?_); rintro x w6 ⟨vb, i5, e5, rfl, hr, hg, hd, hp⟩; have ZO := hide (ZO.out.step hr hg); have G5 := hide hd; have P5 := hide hp; have c0 : w6.cell? ⟨h, 0, none⟩ = some (.int .i64 4) := ZO.out.c.k1; clear hr hg hd hp HN)
          | ((with_reducible refine wpList_store_lb (p := vb.1) (q := vb.2) ?_ ?_ ZO.out.c ?_); rfl; rfl; intro w7 hn hg; have ZO := hide (ZO.out.put hn hg); have c0 : w7.cell? ⟨h, 0, none⟩ = some (.int .i64 4) := ZO.out.c.k1; clear hn hg))
        try simp only [Act.put]
        go_upto_region 29 with (fail)
        clear c0
        have GM := hide (show Got (dLt0 zs 0) 0 ({ bare0 4 f t with i := (vi.1, vi.2), b := (vb.1, vb.2) } : Lt) i5 e5 from tail_kind HK.out (by unfold dRest; exact (got_opt rfl (G4.out)).bnd ((got_opt rfl (G5.out)).bnd ((got_none rfl).bnd ((got_none rfl).bnd ((got_none rfl).bnd ((got_none rfl).bnd ((got_none rfl).bnd (Got.ok _ _ _)))))))))
        clear HK G4 G5
        have HE := got_end GM.out
        have WM := hide ZO.out.c.wf
        have hN := rend_to ZO.out.k
        obtain ⟨m, hm⟩ : ∃ m, ({ bare0 4 f t with i := (vi.1, vi.2), b := (vb.1, vb.2) } : Lt) = m := ⟨_, rfl⟩
        rw [hm] at HE ZO WM
        clear GM hm
        obtain ⟨E, hE⟩ : ∃ E, rEndE zs i5 e5 = E := ⟨_, rfl⟩
        rw [hE] at HE hN
        have HN := hide hN
        clear hN hE
        by_cases h0 : E = 0
        · subst h0
          rw [if_pos rfl] at HE
          go_upto_region 32 with (go_at_call 67; (with_reducible refine HN.out.mono ?_); rintro x w10 ⟨rfl, hr, hg⟩; have ZO := hide (ZO.out.step hr hg); clear hr hg HN)
          have HR := fun w => rrightletter_any m WM.out w
          cases hq : rightLt m
          · rw [hq, if_neg (by decide)] at HE
            simp only [hq] at HR
            have HD := hide HE
            clear hq HE
            go_wp2_with (first
              | ((with_reducible refine wpList_load_lt ZO.out.c.wf ?_ ?_ ZO.out.c.all ?_); rfl; rfl)
              | (go_at_call 17; (with_reducible refine (HR _).mono ?_); rintro x w11 ⟨rfl, hb⟩; have ZO := hide (ZO.out.quiet hb); clear hb)
              | ((with_reducible refine wpList_build_no ?_ (fill_lz _) ?_); rfl)
              | ((with_reducible refine wpList_store_lw (y := zeroLt) wf_zeroLt ?_ ?_ ZO.out.z ?_); rfl; rfl; intro w12 hn hg; have HF := hide (And.intro hn (ZO.out.done hg)); clear hn hg))
            exact bodyPost_ret (results_lb Try.results22 rfl HF.out.1 rfl) rfl ⟨zeroLt, 4, rfl, HD.out, wf_zeroLt, HF.out.2⟩
          · rw [hq, if_pos rfl] at HE
            simp only [hq] at HR
            have HD := hide HE
            clear hq HE
            go_wp2_with (first
              | ((with_reducible refine wpList_load_lt ZO.out.c.wf ?_ ?_ ZO.out.c.all ?_); rfl; rfl)
              | (go_at_call 17; (with_reducible refine (HR _).mono ?_); rintro x w11 ⟨rfl, hb⟩; have ZO := hide (ZO.out.quiet hb); clear hb)
              | ((with_reducible refine wpList_store_lw (y := m) WM.out ?_ ?_ ZO.out.z ?_); rfl; rfl; intro w12 hn hg; have HF := hide (And.intro hn (ZO.out.done hg)); clear hn hg))
            exact bodyPost_ret (results_lb Try.results22 rfl HF.out.1 rfl) rfl ⟨m, 0, rfl, HD.out, WM.out, HF.out.2⟩
        · rw [if_neg h0] at HE
          have t0 : (E != 0) = true := by simpa using h0
          have HD := hide HE
          clear h0 HE
          go_wp2_with (first
            | (go_at_call 67; (with_reducible refine HN.out.mono ?_); rintro x w10 ⟨rfl, hr, hg⟩; have ZO := hide (ZO.out.step hr hg); clear hr hg HN)
            | ((with_reducible refine wpList_build_no ?_ (fill_lz _) ?_); rfl)
            | ((with_reducible refine wpList_store_lw (y := zeroLt) wf_zeroLt ?_ ?_ ZO.out.z ?_); rfl; rfl; intro w12 hn hg; have HF := hide (And.intro hn (ZO.out.done hg)); clear hn hg))
          exact bodyPost_ret (results_lb Try.results22 rfl HF.out.1 rfl) rfl ⟨zeroLt, E, rfl, HD.out, wf_zeroLt, HF.out.2⟩
      · subst hk
        go_upto_region 8 with (fail)
        clear c2
        have HN := hide (rinst_g ZO.out.k)
        go_upto_region 9 with (first
          | (go_at_call 62; (with_reducible refine HN.out.mono ?_); rintro x w6 ⟨vi, i4, e4, rfl, hr, hg, hd, hp⟩; have ZO := hide (ZO.out.step hr hg); have G4 := hide hd; have P4 := hide hp; have c0 : w6.cell? ⟨h, 0, none⟩ = some (.int .i64 5) := ZO.out.c.k1; clear hr hg hd hp HN)
          | ((with_reducible refine wpList_store_li (p := vi.1) (q := vi.2) ?_ ?_ ZO.out.c ?_); rfl; rfl; intro w7 hn hg; have ZO := hide (ZO.out.put hn hg); have c0 : w7.cell? ⟨h, 0, none⟩ = some (.int .i64 5) := ZO.out.c.k1; clear hn hg))
        try simp only [Act.put]
        go_upto_region 15 with (fail)
        have HN := hide (rcmd_g ZO.out.k)
        go_upto_region 16 with (first
          | (go_at_call 64; (with_reducible refine HN.out.mono ?_); rintro x w6 ⟨vc, i5, e5, rfl, hr, hg, hd, hp⟩; have ZO := hide (ZO.out.step hr hg); have G5 := hide hd; have P5 := hide hp; have c0 : w6.cell? ⟨h, 0, none⟩ = some (.int .i64 5) := ZO.out.c.k1; clear hr hg hd hp HN)
          | ((with_reducible refine wpList_store_lc (c := vc) ?_ ?_ ZO.out.c ?_); rfl; rfl; intro w7 hn hg; have ZO := hide (ZO.out.put hn hg); have c0 : w7.cell? ⟨h, 0, none⟩ = some (.int .i64 5) := ZO.out.c.k1; clear hn hg))
        try simp only [Act.put]
        have HN := hide (rattr_g ZO.out.k)
        go_upto_region 29 with (first
          | (go_at_call 65; (with_reducible refine HN.out.mono ?_); rintro x w6 ⟨va, i6, e6, rfl, hr, hg, hd, hp⟩; have ZO := hide (ZO.out.step hr hg); have G6 := hide hd; have P6 := hide hp; have c0 : w6.cell? ⟨h, 0, none⟩ = some (.int .i64 5) := ZO.out.c.k1; clear hr hg hd hp HN)
          | ((with_reducible refine wpList_store_la (y := va) P6.out ?_ ?_ ZO.out.c ?_); rfl; rfl; intro w7 hn hg; have ZO := hide (ZO.out.put hn hg); have c0 : w7.cell? ⟨h, 0, none⟩ = some (.int .i64 5) := ZO.out.c.k1; clear hn hg))
        try simp only [Act.put]
        clear c0
        have GM := hide (show Got (dLt0 zs 0) 0 ({ bare0 5 f t with i := (vi.1, vi.2), c := vc, a := va } : Lt) i6 e6 from tail_kind HK.out (by unfold dRest; exact (got_opt rfl (G4.out)).bnd ((got_none rfl).bnd ((got_opt rfl (G5.out)).bnd ((got_opt rfl (G6.out)).bnd ((got_none rfl).bnd ((got_none rfl).bnd ((got_none rfl).bnd (Got.ok _ _ _)))))))))
        clear HK G4 G5 G6
        have HE := got_end GM.out
        have WM := hide ZO.out.c.wf
        have hN := rend_to ZO.out.k
        obtain ⟨m, hm⟩ : ∃ m, ({ bare0 5 f t with i := (vi.1, vi.2), c := vc, a := va } : Lt) = m := ⟨_, rfl⟩
        rw [hm] at HE ZO WM
        clear GM hm
        obtain ⟨E, hE⟩ : ∃ E, rEndE zs i6 e6 = E := ⟨_, rfl⟩
        rw [hE] at HE hN
        have HN := hide hN
        clear hN hE
        by_cases h0 : E = 0
        · subst h0
          rw [if_pos rfl] at HE
          go_upto_region 32 with (go_at_call 67; (with_reducible refine HN.out.mono ?_); rintro x w10 ⟨rfl, hr, hg⟩; have ZO := hide (ZO.out.step hr hg); clear hr hg HN)
          have HR := fun w => rrightletter_any m WM.out w
          cases hq : rightLt m
          · rw [hq, if_neg (by decide)] at HE
            simp only [hq] at HR
            have HD := hide HE
            clear hq HE
            go_wp2_with (first
              | ((with_reducible refine wpList_load_lt ZO.out.c.wf ?_ ?_ ZO.out.c.all ?_); rfl; rfl)
              | (go_at_call 17; (with_reducible refine (HR _).mono ?_); rintro x w11 ⟨rfl, hb⟩; have ZO := hide (ZO.out.quiet hb); clear hb)
              | ((with_reducible refine wpList_build_no ?_ (fill_lz _) ?_); rfl)
              | ((with_reducible refine wpList_store_lw (y := zeroLt) wf_zeroLt ?_ ?_ ZO.out.z ?_); rfl; rfl; intro w12 hn hg; have HF := hide (And.intro hn (ZO.out.done hg)); clear hn hg))
            exact bodyPost_ret (results_lb Try.results22 rfl HF.out.1 rfl) rfl ⟨zeroLt, 4, rfl, HD.out, wf_zeroLt, HF.out.2⟩
          · rw [hq, if_pos rfl] at HE
            simp only [hq] at HR
            have HD := hide HE
            clear hq HE
            go_wp2_with (first
              | ((with_reducible refine wpList_load_lt ZO.out.c.wf ?_ ?_ ZO.out.c.all ?_); rfl; rfl)
              | (go_at_call 17; (with_reducible refine (HR _).mono ?_); rintro x w11 ⟨rfl, hb⟩; have ZO := hide (ZO.out.quiet hb); clear hb)
              | ((with_reducible refine wpList_store_lw (y := m) WM.out ?_ ?_ ZO.out.z ?_); rfl; rfl; intro w12 hn hg; have HF := hide (And.intro hn (ZO.out.done hg)); clear hn hg))
            exact bodyPost_ret (results_lb Try.results22 rfl HF.out.1 rfl) rfl ⟨m, 0, rfl, HD.out, WM.out, HF.out.2⟩
        · rw [if_neg h0] at HE
          have t0 : (E != 0) = true := by simpa using h0
          have HD := hide HE
          clear h0 HE
          go_wp2_with (first
            | (go_at_call 67; (with_reducible refine HN.out.mono ?_); rintro x w10 ⟨rfl, hr, hg⟩; have ZO := hide (ZO.out.step hr hg); clear hr hg HN)
            | ((with_reducible refine wpList_build_no ?_ (fill_lz _) ?_); rfl)
            | ((with_reducible refine wpList_store_lw (y := zeroLt) wf_zeroLt ?_ ?_ ZO.out.z ?_); rfl; rfl; intro w12 hn hg; have HF := hide (And.intro hn (ZO.out.done hg)); clear hn hg))
          exact bodyPost_ret (results_lb Try.results22 rfl HF.out.1 rfl) rfl ⟨zeroLt, E, rfl, HD.out, wf_zeroLt, HF.out.2⟩
      · subst hk
        go_upto_region 8 with (fail)
        clear c2
        have HN := hide (rinst_g ZO.out.k)
        go_upto_region 9 with (first
          | (go_at_call 62; (with_reducible refine HN.out.mono ?_); rintro x w6 ⟨vi, i4, e4, rfl, hr, hg, hd, hp⟩; have ZO := hide (ZO.out.step hr hg); have G4 := hide hd; have P4 := hide hp; have c0 : w6.cell? ⟨h, 0, none⟩ = some (.int .i64 6) := ZO.out.c.k1; clear hr hg hd hp HN)
          | ((with_reducible refine wpList_store_li (p := vi.1) (q := vi.2) ?_ ?_ ZO.out.c ?_); rfl; rfl; intro w7 hn hg; have ZO := hide (ZO.out.put hn hg); have c0 : w7.cell? ⟨h, 0, none⟩ = some (.int .i64 6) := ZO.out.c.k1; clear hn hg))
        try simp only [Act.put]
        have HN := hide (rballot_g ZO.out.k)
        go_upto_region 11 with (first
          | (go_at_call 63; (with_reducible refine HN.out.mono ?_); rintro x w6 ⟨vb, i5, e5, rfl, hr, hg, hd, hp⟩; have ZO := hide (ZO.out.step hr hg); have G5 := hide hd; have P5 := hide hp; have c0 : w6.cell? ⟨h, 0, none⟩ = some (.int .i64 6) := ZO.out.c.k1; clear hr hg hd hp HN)
          | ((with_reducible refine wpList_store_lb (p := vb.1) (q := vb.2) ?_ ?_ ZO.out.c ?_); rfl; rfl; intro w7 hn hg; have ZO := hide (ZO.out.put hn hg); have c0 : w7.cell? ⟨h, 0, none⟩ = some (.int .i64 6) := ZO.out.c.k1; clear hn hg))
        try simp only [Act.put]
        go_upto_region 29 with (fail)
        clear c0
        have GM := hide (show Got (dLt0 zs 0) 0 ({ bare0 6 f t with i := (vi.1, vi.2), b := (vb.1, vb.2) } : Lt) i5 e5 from tail_kind HK.out (by unfold dRest; exact (got_opt rfl (G4.out)).bnd ((got_opt rfl (G5.out)).bnd ((got_none rfl).bnd ((got_none rfl).bnd ((got_none rfl).bnd ((got_none rfl).bnd ((got_none rfl).bnd (Got.ok _ _ _)))))))))
        clear HK G4 G5
        have HE := got_end GM.out
        have WM := hide ZO.out.c.wf
        have hN := rend_to ZO.out.k
        obtain ⟨m, hm⟩ : ∃ m, ({ bare0 6 f t with i := (vi.1, vi.2), b := (vb.1, vb.2) } : Lt) = m := ⟨_, rfl⟩
        rw [hm] at HE ZO WM
        clear GM hm
        obtain ⟨E, hE⟩ : ∃ E, rEndE zs i5 e5 = E := ⟨_, rfl⟩
        rw [hE] at HE hN
        have HN := hide hN
        clear hN hE
        by_cases h0 : E = 0
        · subst h0
          rw [if_pos rfl] at HE
          go_upto_region 32 with (go_at_call 67; (with_reducible refine HN.out.mono ?_); rintro x w10 ⟨rfl, hr, hg⟩; have ZO := hide (ZO.out.step hr hg); clear hr hg HN)
          have HR := fun w => rrightletter_any m WM.out w
          cases hq : rightLt m
          · rw [hq, if_neg (by decide)] at HE
            simp only [hq] at HR
            have HD := hide HE
            clear hq HE
            go_wp2_with (first
              | ((with_reducible refine wpList_load_lt ZO.out.c.wf ?_ ?_ ZO.out.c.all ?_); rfl; rfl)
              | (go_at_call 17; (with_reducible refine (HR _).mono ?_); rintro x w11 ⟨rfl, hb⟩; have ZO := hide (ZO.out.quiet hb); clear hb)
              | ((with_reducible refine wpList_build_no ?_ (fill_lz _) ?_); rfl)
              | ((with_reducible refine wpList_store_lw (y := zeroLt) wf_zeroLt ?_ ?_ ZO.out.z ?_); rfl; rfl; intro w12 hn hg; have HF := hide (And.intro hn (ZO.out.done hg)); clear hn hg))
            exact bodyPost_ret (results_lb Try.results22 rfl HF.out.1 rfl) rfl ⟨zeroLt, 4, rfl, HD.out, wf_zeroLt, HF.out.2⟩
          · rw [hq, if_pos rfl] at HE
            simp only [hq] at HR
            have HD := hide HE
            clear hq HE
            go_wp2_with (first
              | ((with_reducible refine wpList_load_lt ZO.out.c.wf ?_ ?_ ZO.out.c.all ?_); rfl; rfl)
              | (go_at_call 17; (with_reducible refine (HR _).mono ?_); rintro x w11 ⟨rfl, hb⟩; have ZO := hide (ZO.out.quiet hb); clear hb)
              | ((with_reducible refine wpList_store_lw (y := m) WM.out ?_ ?_ ZO.out.z ?_); rfl; rfl; intro w12 hn hg; have HF := hide (And.intro hn (ZO.out.done hg)); clear hn hg))
            exact bodyPost_ret (results_lb Try.results22 rfl HF.out.1 rfl) rfl ⟨m, 0, rfl, HD.out, WM.out, HF.out.2⟩
        · rw [if_neg h0] at HE
          have t0 : (E != 0) = true := by simpa using h0
          have HD := hide HE
          clear h0 HE
          go_wp2_with (first
            | (go_at_call 67; (with_reducible refine HN.out.mono ?_); rintro x w10 ⟨rfl, hr, hg⟩; have ZO := hide (ZO.out.step hr hg); clear hr hg HN)
            | ((with_reducible refine wpList_build_no ?_ (fill_lz _) ?_); rfl)
            | ((with_reducible refine wpList_store_lw (y := zeroLt) wf_zeroLt ?_ ?_ ZO.out.z ?_); rfl; rfl; intro w12 hn hg; have HF := hide (And.intro hn (ZO.out.done hg)); clear hn hg))
          exact bodyPost_ret (results_lb Try.results22 rfl HF.out.1 rfl) rfl ⟨zeroLt, E, rfl, HD.out, wf_zeroLt, HF.out.2⟩
      · subst hk
        go_upto_region 8 with (fail)
        clear c2
        have HN := hide (rinst_g ZO.out.k)
        go_upto_region 9 with (first
          | (go_at_call 62; (with_reducible refine HN.out.mono ?_); rintro x w6 ⟨vi, i4, e4, rfl, hr, hg, hd, hp⟩; have ZO := hide (ZO.out.step hr hg); have G4 := hide hd; have P4 := hide hp; have c0 : w6.cell? ⟨h, 0, none⟩ = some (.int .i64 7) := ZO.out.c.k1; clear hr hg hd hp HN)
          | ((with_reducible refine wpList_store_li (p := vi.1) (q := vi.2) ?_ ?_ ZO.out.c ?_); rfl; rfl; intro w7 hn hg; have ZO := hide (ZO.out.put hn hg); have c0 : w7.cell? ⟨h, 0, none⟩ = some (.int .i64 7) := ZO.out.c.k1; clear hn hg))
        try simp only [Act.put]
        have HN := hide (rballot_g ZO.out.k)
        go_upto_region 11 with (first
          | (go_at_call 63; (with_reducible refine HN.out.mono ?_); rintro x w6 ⟨vb, i5, e5, rfl, hr, hg, hd, hp⟩; have ZO := hide (ZO.out.step hr hg); have G5 := hide hd; have P5 := hide hp; have c0 : w6.cell? ⟨h, 0, none⟩ = some (.int .i64 7) := ZO.out.c.k1; clear hr hg hd hp HN)
          | ((with_reducible refine wpList_store_lb (p := vb.1) (q := vb.2) ?_ ?_ ZO.out.c ?_); rfl; rfl; intro w7 hn hg; have ZO := hide (ZO.out.put hn hg); have c0 : w7.cell? ⟨h, 0, none⟩ = some (.int .i64 7) := ZO.out.c.k1; clear hn hg))
        try simp only [Act.put]
        go_upto_region 20 with (fail)
        have HN := hide (rgetcell_g ZO.out.k)
        go_upto_region 29 with (first
          | (go_at_call 26; (with_reducible refine HN.out.mono ?_); rintro x w6 ⟨vx, i6, e6, rfl, hr, hg, hd, hp⟩; have ZO := hide (ZO.out.step hr hg); have G6 := hide hd; have P6 := hide (show vx.a.length = 8 from hp.1); have c0 : w6.cell? ⟨h, 0, none⟩ = some (.int .i64 7) := ZO.out.c.k1; clear hr hg hd hp HN)
          | ((with_reducible refine wpList_store_lx (y := vx) P6.out ?_ ?_ ZO.out.c ?_); rfl; rfl; intro w7 hn hg; have ZO := hide (ZO.out.put hn hg); have c0 : w7.cell? ⟨h, 0, none⟩ = some (.int .i64 7) := ZO.out.c.k1; clear hn hg))
        try simp only [Act.put]
        clear c0
        have GM := hide (show Got (dLt0 zs 0) 0 ({ bare0 7 f t with i := (vi.1, vi.2), b := (vb.1, vb.2), x := vx } : Lt) i6 e6 from tail_kind HK.out (by unfold dRest; exact (got_opt rfl (G4.out)).bnd ((got_opt rfl (G5.out)).bnd ((got_none rfl).bnd ((got_none rfl).bnd ((got_opt rfl (G6.out)).bnd ((got_none rfl).bnd ((got_none rfl).bnd (Got.ok _ _ _)))))))))
        clear HK G4 G5 G6
        have HE := got_end GM.out
        have WM := hide ZO.out.c.wf
        have hN := rend_to ZO.out.k
        obtain ⟨m, hm⟩ : ∃ m, ({ bare0 7 f t with i := (vi.1, vi.2), b := (vb.1, vb.2), x := vx } : Lt) = m := ⟨_, rfl⟩
        rw [hm] at HE ZO WM
        clear GM hm
        obtain ⟨E, hE⟩ : ∃ E, rEndE zs i6 e6 = E := ⟨_, rfl⟩
        rw [hE] at HE hN
        have HN := hide hN
        clear hN hE
        by_cases h0 : E = 0
        · subst h0
          rw [if_pos rfl] at HE
          go_upto_region 32 with (go_at_call 67; (with_reducible refine HN.out.mono ?_); rintro x w10 ⟨rfl, hr, hg⟩; have ZO := hide (ZO.out.step hr hg); clear hr hg HN)
          have HR := fun w => rrightletter_any m WM.out w
          cases hq : rightLt m
          · rw [hq, if_neg (by decide)] at HE
            simp only [hq] at HR
            have HD := hide HE
            clear hq HE
            go_wp2_with (first
              | ((with_reducible refine wpList_load_lt ZO.out.c.wf ?_ ?_ ZO.out.c.all ?_); rfl; rfl)
              | (go_at_call 17; (with_reducible refine (HR _).mono ?_); rintro x w11 ⟨rfl, hb⟩; have ZO := hide (ZO.out.quiet hb); clear hb)
              | ((with_reducible refine wpList_build_no ?_ (fill_lz _) ?_); rfl)
              | ((with_reducible refine wpList_store_lw (y := zeroLt) wf_zeroLt ?_ ?_ ZO.out.z ?_); rfl; rfl; intro w12 hn hg; have HF := hide (And.intro hn (ZO.out.done hg)); clear hn hg))
            exact bodyPost_ret (results_lb Try.results22 rfl HF.out.1 rfl) rfl ⟨zeroLt, 4, rfl, HD.out, wf_zeroLt, HF.out.2⟩
          · rw [hq, if_pos rfl] at HE
            simp only [hq] at HR
            have HD := hide HE
            clear hq HE
            go_wp2_with (first
              | ((with_reducible refine wpList_load_lt ZO.out.c.wf ?_ ?_ ZO.out.c.all ?_); rfl; rfl)
              | (go_at_call 17; (with_reducible refine (HR _).mono ?_); rintro x w11 ⟨rfl, hb⟩; have ZO := hide (ZO.out.quiet hb); clear hb)
              | ((with_reducible refine wpList_store_lw (y := m) WM.out ?_ ?_ ZO.out.z ?_); rfl; rfl; intro w12 hn hg; have HF := hide (And.intro hn (ZO.out.done hg)); clear hn hg))
            exact bodyPost_ret (results_lb Try.results22 rfl HF.out.1 rfl) rfl ⟨m, 0, rfl, HD.out, WM.out, HF.out.2⟩
        · rw [if_neg h0] at HE
          have t0 : (E != 0) = true := by simpa using h0
          have HD := hide HE
          clear h0 HE
          go_wp2_with (first
            | (go_at_call 67; (with_reducible refine HN.out.mono ?_); rintro x w10 ⟨rfl, hr, hg⟩; have ZO := hide (ZO.out.step hr hg); clear hr hg HN)
            | ((with_reducible refine wpList_build_no ?_ (fill_lz _) ?_); rfl)
            | ((with_reducible refine wpList_store_lw (y := zeroLt) wf_zeroLt ?_ ?_ ZO.out.z ?_); rfl; rfl; intro w12 hn hg; have HF := hide (And.intro hn (ZO.out.done hg)); clear hn hg))
          exact bodyPost_ret (results_lb Try.results22 rfl HF.out.1 rfl) rfl ⟨zeroLt, E, rfl, HD.out, wf_zeroLt, HF.out.2⟩
      · subst hk
        go_upto_region 8 with (fail)
        clear c2
        have HN := hide (rinst_g ZO.out.k)
        go_upto_region 9 with (first
          | (go_at_call 62; (with_reducible refine HN.out.mono ?_); rintro x w6 ⟨vi, i4, e4, rfl, hr, hg, hd, hp⟩; have ZO := hide (ZO.out.step hr hg); have G4 := hide hd; have P4 := hide hp; have c0 : w6.cell? ⟨h, 0, none⟩ = some (.int .i64 8) := ZO.out.c.k1; clear hr hg hd hp HN)
          | ((with_reducible refine wpList_store_li (p := vi.1) (q := vi.2) ?_ ?_ ZO.out.c ?_); rfl; rfl; intro w7 hn hg; have ZO := hide (ZO.out.put hn hg); have c0 : w7.cell? ⟨h, 0, none⟩ = some (.int .i64 8) := ZO.out.c.k1; clear hn hg))
        try simp only [Act.put]
        have HN := hide (rballot_g ZO.out.k)
        go_upto_region 11 with (first
          | (go_at_call 63; (with_reducible refine HN.out.mono ?_); rintro x w6 ⟨vb, i5, e5, rfl, hr, hg, hd, hp⟩; have ZO := hide (ZO.out.step hr hg); have G5 := hide hd; have P5 := hide hp; have c0 : w6.cell? ⟨h, 0, none⟩ = some (.int .i64 8) := ZO.out.c.k1; clear hr hg hd hp HN)
          | ((with_reducible refine wpList_store_lb (p := vb.1) (q := vb.2) ?_ ?_ ZO.out.c ?_); rfl; rfl; intro w7 hn hg; have ZO := hide (ZO.out.put hn hg); have c0 : w7.cell? ⟨h, 0, none⟩ = some (.int .i64 8) := ZO.out.c.k1; clear hn hg))
        try simp only [Act.put]
        go_upto_region 29 with (fail)
        clear c0
        have GM := hide (show Got (dLt0 zs 0) 0 ({ bare0 8 f t with i := (vi.1, vi.2), b := (vb.1, vb.2) } : Lt) i5 e5 from tail_kind HK.out (by unfold dRest; exact (got_opt rfl (G4.out)).bnd ((got_opt rfl (G5.out)).bnd ((got_none rfl).bnd ((got_none rfl).bnd ((got_none rfl).bnd ((got_none rfl).bnd ((got_none rfl).bnd (Got.ok _ _ _)))))))))
        clear HK G4 G5
        have HE := got_end GM.out
        have WM := hide ZO.out.c.wf
        have hN := rend_to ZO.out.k
        obtain ⟨m, hm⟩ : ∃ m, ({ bare0 8 f t with i := (vi.1, vi.2), b := (vb.1, vb.2) } : Lt) = m := ⟨_, rfl⟩
        rw [hm] at HE ZO WM
        clear GM hm
        obtain ⟨E, hE⟩ : ∃ E, rEndE zs i5 e5 = E := ⟨_, rfl⟩
        rw [hE] at HE hN
        have HN := hide hN
        clear hN hE
        by_cases h0 : E = 0
        · subst h0
          rw [if_pos rfl] at HE
          go_upto_region 32 with (go_at_call 67; (with_reducible refine HN.out.mono ?_); rintro x w10 ⟨rfl, hr, hg⟩; have ZO := hide (ZO.out.step hr hg); clear hr hg HN)
          have HR := fun w => rrightletter_any m WM.out w
          cases hq : rightLt m
          · rw [hq, if_neg (by decide)] at HE
            simp only [hq] at HR
            have HD := hide HE
            clear hq HE
            go_wp2_with (first
              | ((with_reducible refine wpList_load_lt ZO.out.c.wf ?_ ?_ ZO.out.c.all ?_); rfl; rfl)
              | (go_at_call 17; (with_reducible refine (HR _).mono ?_); rintro x w11 ⟨rfl, hb⟩; have ZO := hide (ZO.out.quiet hb); clear hb)
              | ((with_reducible refine wpList_build_no ?_ (fill_lz _) ?_); rfl)
              | ((with_reducible refine wpList_store_lw (y := zeroLt) wf_zeroLt ?_ ?_ ZO.out.z ?_); rfl; rfl; intro w12 hn hg; have HF := hide (And.intro hn (ZO.out.done hg)); clear hn hg))
            exact bodyPost_ret (results_lb Try.results22 rfl HF.out.1 rfl) rfl ⟨zeroLt, 4, rfl, HD.out, wf_zeroLt, HF.out.2⟩
          · rw [hq, if_pos rfl] at HE
            simp only [hq] at HR
            have HD := hide HE
            clear hq HE
            go_wp2_with (first
              | ((with_reducible refine wpList_load_lt ZO.out.c.wf ?_ ?_ ZO.out.c.all ?_); rfl; rfl)
              | (go_at_call 17; (with_reducible refine (HR _).mono ?_); rintro x w11 ⟨rfl, hb⟩; have ZO := hide (ZO.out.quiet hb); clear hb)
              | ((with_reducible refine wpList_store_lw (y := m) WM.out ?_ ?_ ZO.out.z ?_); rfl; rfl; intro w12 hn hg; have HF := hide (And.intro hn (ZO.out.done hg)); clear hn hg))
            exact bodyPost_ret (results_lb Try.results22 rfl HF.out.1 rfl) rfl ⟨m, 0, rfl, HD.out, WM.out, HF.out.2⟩
        · rw [if_neg h0] at HE
          have t0 : (E != 0) = true := by simpa using h0
          have HD := hide HE
          clear h0 HE
          go_wp2_with (first
            | (go_at_call 67; (with_reducible refine HN.out.mono ?_); rintro x w10 ⟨rfl, hr, hg⟩; have ZO := hide (ZO.out.step hr hg); clear hr hg HN)
            | ((with_reducible refine wpList_build_no ?_ (fill_lz _) ?_); rfl)
            | ((with_reducible refine wpList_store_lw (y := zeroLt) wf_zeroLt ?_ ?_ ZO.out.z ?_); rfl; rfl; intro w12 hn hg; have HF := hide (And.intro hn (ZO.out.done hg)); clear hn hg))
          exact bodyPost_ret (results_lb Try.results22 rfl HF.out.1 rfl) rfl ⟨zeroLt, E, rfl, HD.out, wf_zeroLt, HF.out.2⟩
      · subst hk
        go_upto_region 23 with (fail)
        clear c2 c0
        have GD := hide (got_nums zs 7 i3 e3)
        have ZD := hide (show Zo 59 w w5 w.heap.size g zs (stN zs i3 e3 0).1 (stN zs i3 e3 0).2 w.heap.size h { bare0 9 f t with d := fillD zs i3 e3 7 0 } from ZO.out)
        clear ZO
        go_wp2
        go_loopw [6] (fun j wr => ∃ n : Nat, n ≤ 7 ∧ j = .int .i64 n ∧ Hid (Zo 59 w wr w.heap.size g zs (stN zs i3 e3 n).1 (stN zs i3 e3 n).2 w.heap.size h { bare0 9 f t with d := fillD zs i3 e3 7 n })) (fun j _ => 7 - (intOf j).toNat)
        case atStart => exact ⟨0, by omega, rfl, ZD⟩
        case round =>
          clear ZD
          obtain ⟨n, hn, rfl, ZO⟩ := hrel
          by_cases hlt : n < 7
          · have HN := hide (rnum_to ZO.out.k)
            have n7 : (n : Int) < 7 := by omega
            have n0 : (0 : Int) ≤ (n : Int) := by omega
            have HX := hide (fun (w' : World) (m : Lt) (s : Zo 59 w w' w.heap.size g zs (stN zs i3 e3 (n + 1)).1 (stN zs i3 e3 (n + 1)).2 w.heap.size h m) (hm : m = { bare0 9 f t with d := fillD zs i3 e3 7 (n + 1) }) => (hm ▸ s : Zo 59 w w' w.heap.size g zs (stN zs i3 e3 (n + 1)).1 (stN zs i3 e3 (n + 1)).2 w.heap.size h { bare0 9 f t with d := fillD zs i3 e3 7 (n + 1) }))
            have HS := hide (fillD_set (zs := zs) (i := i3) (e := e3) hlt)
            go_wp2_with (first
              | (go_at_call 61; (with_reducible refine HN.out.mono ?_); rintro x w6 ⟨rfl, hr, hg⟩; have ZO := hide (ZO.out.step hr hg); clear hr hg HN)
              | ((with_reducible refine wpList_store_ldk (k := n) (n := rNumV zs (stN zs i3 e3 n).1 (stN zs i3 e3 n).2) hlt ?_ ?_ ZO.out.c ?_); rfl; rfl; intro w7 hn hg; have ZO := hide (ZO.out.put hn hg); clear hn hg))
            have ZO2 := hide (HX.out _ _ (by rw [stN_last]; exact ZO.out) (by show ({ bare0 9 f t with d := (fillD zs i3 e3 7 n).set n (valN zs i3 e3 n) } : Lt) = _; rw [HS.out]))
            clear ZO HX HS
            go_roundw
            case rel => exact ⟨n + 1, by omega, by go_num, ZO2⟩
            case measure => simp [intOf]; omega
          · obtain rfl : n = 7 := by omega
            have n7 : ¬ (((7 : Nat) : Int) < 7) := by omega
            have ZO := hide (show Zo 59 w wr w.heap.size g zs (stN zs i3 e3 7).1 (stN zs i3 e3 7).2 w.heap.size h { bare0 9 f t with d := valsN zs i3 e3 7 } from by have := ZO.out; rw [fillD_all] at this; exact this)
            go_upto_region 29 with (fail)
            have GM := hide (show Got (dLt0 zs 0) 0 ({ bare0 9 f t with d := valsN zs i3 e3 7 } : Lt) (stN zs i3 e3 7).1 (stN zs i3 e3 7).2 from tail_kind HK.out (by unfold dRest; exact (got_none rfl).bnd ((got_none rfl).bnd ((got_none rfl).bnd ((got_none rfl).bnd ((got_none rfl).bnd ((got_opt rfl (GD.out)).bnd ((got_none rfl).bnd (Got.ok _ _ _)))))))))
            clear HK
            have HE := got_end GM.out
            have WM := hide ZO.out.c.wf
            have hN := rend_to ZO.out.k
            obtain ⟨m, hm⟩ : ∃ m, ({ bare0 9 f t with d := valsN zs i3 e3 7 } : Lt) = m := ⟨_, rfl⟩
            rw [hm] at HE ZO WM
            clear GM hm
            obtain ⟨E, hE⟩ : ∃ E, rEndE zs (stN zs i3 e3 7).1 (stN zs i3 e3 7).2 = E := ⟨_, rfl⟩
            rw [hE] at HE hN
            have HN := hide hN
            clear hN hE
            by_cases h0 : E = 0
            · subst h0
              rw [if_pos rfl] at HE
              go_upto_region 32 with (go_at_call 67; (with_reducible refine HN.out.mono ?_); rintro x w10 ⟨rfl, hr, hg⟩; have ZO := hide (ZO.out.step hr hg); clear hr hg HN)
              have HR := fun w => rrightletter_any m WM.out w
              cases hq : rightLt m
              · rw [hq, if_neg (by decide)] at HE
                simp only [hq] at HR
                have HD := hide HE
                clear hq HE
                go_wp2_with (first
                  | ((with_reducible refine wpList_load_lt ZO.out.c.wf ?_ ?_ ZO.out.c.all ?_); rfl; rfl)
                  | (go_at_call 17; (with_reducible refine (HR _).mono ?_); rintro x w11 ⟨rfl, hb⟩; have ZO := hide (ZO.out.quiet hb); clear hb)
                  | ((with_reducible refine wpList_build_no ?_ (fill_lz _) ?_); rfl)
                  | ((with_reducible refine wpList_store_lw (y := zeroLt) wf_zeroLt ?_ ?_ ZO.out.z ?_); rfl; rfl; intro w12 hn hg; have HF := hide (And.intro hn (ZO.out.done hg)); clear hn hg))
                exact bodyPost_ret (results_lb Try.results22 rfl HF.out.1 rfl) rfl ⟨zeroLt, 4, rfl, HD.out, wf_zeroLt, HF.out.2⟩
              · rw [hq, if_pos rfl] at HE
                simp only [hq] at HR
                have HD := hide HE
                clear hq HE
                go_wp2_with (first
                  | ((with_reducible refine wpList_load_lt ZO.out.c.wf ?_ ?_ ZO.out.c.all ?_); rfl; rfl)
                  | (go_at_call 17; (with_reducible refine (HR _).mono ?_); rintro x w11 ⟨rfl, hb⟩; have ZO := hide (ZO.out.quiet hb); clear hb)
                  | ((with_reducible refine wpList_store_lw (y := m) WM.out ?_ ?_ ZO.out.z ?_); rfl; rfl; intro w12 hn hg; have HF := hide (And.intro hn (ZO.out.done hg)); clear hn hg))
                exact bodyPost_ret (results_lb Try.results22 rfl HF.out.1 rfl) rfl ⟨m, 0, rfl, HD.out, WM.out, HF.out.2⟩
            · rw [if_neg h0] at HE
              have t0 : (E != 0) = true := by simpa using h0
              have HD := hide HE
              clear h0 HE
              go_wp2_with (first
                | (go_at_call 67; (with_reducible refine HN.out.mono ?_); rintro x w10 ⟨rfl, hr, hg⟩; have ZO := hide (ZO.out.step hr hg); clear hr hg HN)
                | ((with_reducible refine wpList_build_no ?_ (fill_lz _) ?_); rfl)
                | ((with_reducible refine wpList_store_lw (y := zeroLt) wf_zeroLt ?_ ?_ ZO.out.z ?_); rfl; rfl; intro w12 hn hg; have HF := hide (And.intro hn (ZO.out.done hg)); clear hn hg))
              exact bodyPost_ret (results_lb Try.results22 rfl HF.out.1 rfl) rfl ⟨zeroLt, E, rfl, HD.out, wf_zeroLt, HF.out.2⟩
      · subst hk
        go_upto_region 28 with (fail)
        clear c2
        have HN := hide (rtext_g ZO.out.k 16384)
        go_upto_region 29 with (first
          | (go_at_call 66; (with_reducible refine HN.out.mono ?_); rintro x w6 ⟨vz, i4, e4, rfl, hr, hg, hd, hp⟩; have ZO := hide (ZO.out.step hr hg); have G4 := hide hd; have P4 := hide hp; have c0 : w6.cell? ⟨h, 0, none⟩ = some (.int .i64 10) := ZO.out.c.k1; clear hr hg hd hp HN)
          | ((with_reducible refine wpList_store_lz (z := vz) ?_ ?_ ZO.out.c ?_); rfl; rfl; intro w7 hn hg; have ZO := hide (ZO.out.put hn hg); have c0 : w7.cell? ⟨h, 0, none⟩ = some (.int .i64 10) := ZO.out.c.k1; clear hn hg))
        try simp only [Act.put]
        clear c0
        have GM := hide (show Got (dLt0 zs 0) 0 ({ bare0 10 f t with z := vz } : Lt) i4 e4 from tail_kind HK.out (by unfold dRest; exact (got_none rfl).bnd ((got_none rfl).bnd ((got_none rfl).bnd ((got_none rfl).bnd ((got_none rfl).bnd ((got_none rfl).bnd ((got_opt rfl (G4.out)).bnd (Got.ok _ _ _)))))))))
        clear HK G4
        have HE := got_end GM.out
        have WM := hide ZO.out.c.wf
        have hN := rend_to ZO.out.k
        obtain ⟨m, hm⟩ : ∃ m, ({ bare0 10 f t with z := vz } : Lt) = m := ⟨_, rfl⟩
        rw [hm] at HE ZO WM
        clear GM hm
        obtain ⟨E, hE⟩ : ∃ E, rEndE zs i4 e4 = E := ⟨_, rfl⟩
        rw [hE] at HE hN
        have HN := hide hN
        clear hN hE
        by_cases h0 : E = 0
        · subst h0
          rw [if_pos rfl] at HE
          go_upto_region 32 with (go_at_call 67; (with_reducible refine HN.out.mono ?_); rintro x w10 ⟨rfl, hr, hg⟩; have ZO := hide (ZO.out.step hr hg); clear hr hg HN)
          have HR := fun w => rrightletter_any m WM.out w
          cases hq : rightLt m
          · rw [hq, if_neg (by decide)] at HE
            simp only [hq] at HR
            have HD := hide HE
            clear hq HE
            go_wp2_with (first
              | ((with_reducible refine wpList_load_lt ZO.out.c.wf ?_ ?_ ZO.out.c.all ?_); rfl; rfl)
              | (go_at_call 17; (with_reducible refine (HR _).mono ?_); rintro x w11 ⟨rfl, hb⟩; have ZO := hide (ZO.out.quiet hb); clear hb)
              | ((with_reducible refine wpList_build_no ?_ (fill_lz _) ?_); rfl)
              | ((with_reducible refine wpList_store_lw (y := zeroLt) wf_zeroLt ?_ ?_ ZO.out.z ?_); rfl; rfl; intro w12 hn hg; have HF := hide (And.intro hn (ZO.out.done hg)); clear hn hg))
            exact bodyPost_ret (results_lb Try.results22 rfl HF.out.1 rfl) rfl ⟨zeroLt, 4, rfl, HD.out, wf_zeroLt, HF.out.2⟩
          · rw [hq, if_pos rfl] at HE
            simp only [hq] at HR
            have HD := hide HE
            clear hq HE
            go_wp2_with (first
              | ((with_reducible refine wpList_load_lt ZO.out.c.wf ?_ ?_ ZO.out.c.all ?_); rfl; rfl)
              | (go_at_call 17; (with_reducible refine (HR _).mono ?_); rintro x w11 ⟨rfl, hb⟩; have ZO := hide (ZO.out.quiet hb); clear hb)
              | ((with_reducible refine wpList_store_lw (y := m) WM.out ?_ ?_ ZO.out.z ?_); rfl; rfl; intro w12 hn hg; have HF := hide (And.intro hn (ZO.out.done hg)); clear hn hg))
            exact bodyPost_ret (results_lb Try.results22 rfl HF.out.1 rfl) rfl ⟨m, 0, rfl, HD.out, WM.out, HF.out.2⟩
        · rw [if_neg h0] at HE
          have t0 : (E != 0) = true := by simpa using h0
          have HD := hide HE
          clear h0 HE
          go_wp2_with (first
            | (go_at_call 67; (with_reducible refine HN.out.mono ?_); rintro x w10 ⟨rfl, hr, hg⟩; have ZO := hide (ZO.out.step hr hg); clear hr hg HN)
            | ((with_reducible refine wpList_build_no ?_ (fill_lz _) ?_); rfl)
            | ((with_reducible refine wpList_store_lw (y := zeroLt) wf_zeroLt ?_ ?_ ZO.out.z ?_); rfl; rfl; intro w12 hn hg; have HF := hide (And.intro hn (ZO.out.done hg)); clear hn hg))
          exact bodyPost_ret (results_lb Try.results22 rfl HF.out.1 rfl) rfl ⟨zeroLt, E, rfl, HD.out, wf_zeroLt, HF.out.2⟩
      · subst hk
        go_upto_region 23 with (fail)
        clear c2 c0
        have GD := hide (got_nums zs 7 i3 e3)
        have ZD := hide (show Zo 59 w w5 w.heap.size g zs (stN zs i3 e3 0).1 (stN zs i3 e3 0).2 w.heap.size h { bare0 11 f t with d := fillD zs i3 e3 7 0 } from ZO.out)
        clear ZO
        go_wp2
        go_loopw [6] (fun j wr => ∃ n : Nat, n ≤ 7 ∧ j = .int .i64 n ∧ Hid (Zo 59 w wr w.heap.size g zs (stN zs i3 e3 n).1 (stN zs i3 e3 n).2 w.heap.size h { bare0 11 f t with d := fillD zs i3 e3 7 n })) (fun j _ => 7 - (intOf j).toNat)
        case atStart => exact ⟨0, by omega, rfl, ZD⟩
        case round =>
          clear ZD
          obtain ⟨n, hn, rfl, ZO⟩ := hrel
          by_cases hlt : n < 7
          · have HN := hide (rnum_to ZO.out.k)
            have n7 : (n : Int) < 7 := by omega
            have n0 : (0 : Int) ≤ (n : Int) := by omega
            have HX := hide (fun (w' : World) (m : Lt) (s : Zo 59 w w' w.heap.size g zs (stN zs i3 e3 (n + 1)).1 (stN zs i3 e3 (n + 1)).2 w.heap.size h m) (hm : m = { bare0 11 f t with d := fillD zs i3 e3 7 (n + 1) }) => (hm ▸ s : Zo 59 w w' w.heap.size g zs (stN zs i3 e3 (n + 1)).1 (stN zs i3 e3 (n + 1)).2 w.heap.size h { bare0 11 f t with d := fillD zs i3 e3 7 (n + 1) }))
            have HS := hide (fillD_set (zs := zs) (i := i3) (e := e3) hlt)
            go_wp2_with (first
              | (go_at_call 61; (with_reducible refine HN.out.mono ?_); rintro x w6 ⟨rfl, hr, hg⟩; have ZO := hide (ZO.out.step hr hg); clear hr hg HN)
              | ((with_reducible refine wpList_store_ldk (k := n) (n := rNumV zs (stN zs i3 e3 n).1 (stN zs i3 e3 n).2) hlt ?_ ?_ ZO.out.c ?_); rfl; rfl; intro w7 hn hg; have ZO := hide (ZO.out.put hn hg); clear hn hg))
            have ZO2 := hide (HX.out _ _ (by rw [stN_last]; exact ZO.out) (by show ({ bare0 11 f t with d := (fillD zs i3 e3 7 n).set n (valN zs i3 e3 n) } : Lt) = _; rw [HS.out]))
            clear ZO HX HS
            go_roundw
            case rel => exact ⟨n + 1, by omega, by go_num, ZO2⟩
            case measure => simp [intOf]; omega
          · obtain rfl : n = 7 := by omega
            have n7 : ¬ (((7 : Nat) : Int) < 7) := by omega
            have ZO := hide (show Zo 59 w wr w.heap.size g zs (stN zs i3 e3 7).1 (stN zs i3 e3 7).2 w.heap.size h { bare0 11 f t with d := valsN zs i3 e3 7 } from by have := ZO.out; rw [fillD_all] at this; exact this)
            go_upto_region 29 with (fail)
            have GM := hide (show Got (dLt0 zs 0) 0 ({ bare0 11 f t with d := valsN zs i3 e3 7 } : Lt) (stN zs i3 e3 7).1 (stN zs i3 e3 7).2 from tail_kind HK.out (by unfold dRest; exact (got_none rfl).bnd ((got_none rfl).bnd ((got_none rfl).bnd ((got_none rfl).bnd ((got_none rfl).bnd ((got_opt rfl (GD.out)).bnd ((got_none rfl).bnd (Got.ok _ _ _)))))))))
            clear HK
            have HE := got_end GM.out
            have WM := hide ZO.out.c.wf
            have hN := rend_to ZO.out.k
            obtain ⟨m, hm⟩ : ∃ m, ({ bare0 11 f t with d := valsN zs i3 e3 7 } : Lt) = m := ⟨_, rfl⟩
            rw [hm] at HE ZO WM
            clear GM hm
            obtain ⟨E, hE⟩ : ∃ E, rEndE zs (stN zs i3 e3 7).1 (stN zs i3 e3 7).2 = E := ⟨_, rfl⟩
            rw [hE] at HE hN
            have HN := hide hN
            clear hN hE
            by_cases h0 : E = 0
            · subst h0
              rw [if_pos rfl] at HE
              go_upto_region 32 with (go_at_call 67; (with_reducible refine HN.out.mono ?_); rintro x w10 ⟨rfl, hr, hg⟩; have ZO := hide (ZO.out.step hr hg); clear hr hg HN)
              have HR := fun w => rrightletter_any m WM.out w
              cases hq : rightLt m
              · rw [hq, if_neg (by decide)] at HE
                simp only [hq] at HR
                have HD := hide HE
                clear hq HE
                go_wp2_with (first
                  | ((with_reducible refine wpList_load_lt ZO.out.c.wf ?_ ?_ ZO.out.c.all ?_); rfl; rfl)
                  | (go_at_call 17; (with_reducible refine (HR _).mono ?_); rintro x w11 ⟨rfl, hb⟩; have ZO := hide (ZO.out.quiet hb); clear hb)
                  | ((with_reducible refine wpList_build_no ?_ (fill_lz _) ?_); rfl)
                  | ((with_reducible refine wpList_store_lw (y := zeroLt) wf_zeroLt ?_ ?_ ZO.out.z ?_); rfl; rfl; intro w12 hn hg; have HF := hide (And.intro hn (ZO.out.done hg)); clear hn hg))
                exact bodyPost_ret (results_lb Try.results22 rfl HF.out.1 rfl) rfl ⟨zeroLt, 4, rfl, HD.out, wf_zeroLt, HF.out.2⟩
              · rw [hq, if_pos rfl] at HE
                simp only [hq] at HR
                have HD := hide HE
                clear hq HE
                go_wp2_with (first
                  | ((with_reducible refine wpList_load_lt ZO.out.c.wf ?_ ?_ ZO.out.c.all ?_); rfl; rfl)
                  | (go_at_call 17; (with_reducible refine (HR _).mono ?_); rintro x w11 ⟨rfl, hb⟩; have ZO := hide (ZO.out.quiet hb); clear hb)
                  | ((with_reducible refine wpList_store_lw (y := m) WM.out ?_ ?_ ZO.out.z ?_); rfl; rfl; intro w12 hn hg; have HF := hide (And.intro hn (ZO.out.done hg)); clear hn hg))
                exact bodyPost_ret (results_lb Try.results22 rfl HF.out.1 rfl) rfl ⟨m, 0, rfl, HD.out, WM.out, HF.out.2⟩
            · rw [if_neg h0] at HE
              have t0 : (E != 0) = true := by simpa using h0
              have HD := hide HE
              clear h0 HE
              go_wp2_with (first
                | (go_at_call 67; (with_reducible refine HN.out.mono ?_); rintro x w10 ⟨rfl, hr, hg⟩; have ZO := hide (ZO.out.step hr hg); clear hr hg HN)
                | ((with_reducible refine wpList_build_no ?_ (fill_lz _) ?_); rfl)
                | ((with_reducible refine wpList_store_lw (y := zeroLt) wf_zeroLt ?_ ?_ ZO.out.z ?_); rfl; rfl; intro w12 hn hg; have HF := hide (And.intro hn (ZO.out.done hg)); clear hn hg))
              exact bodyPost_ret (results_lb Try.results22 rfl HF.out.1 rfl) rfl ⟨zeroLt, E, rfl, HD.out, wf_zeroLt, HF.out.2⟩
    · by_cases hk1 : k < 1
      · have k9 : k < 9 := by omega
        have k5 : (k != 5) = true := by rw [bne_iff_ne]; omega
        have t1 : (k == 1) = false := by rw [beq_eq_false_iff_ne]; omega
        have t2 : (k == 2) = false := by rw [beq_eq_false_iff_ne]; omega
        have t3 : (k == 3) = false := by rw [beq_eq_false_iff_ne]; omega
        have t5 : (k == 5) = false := by rw [beq_eq_false_iff_ne]; omega
        have t7 : (k == 7) = false := by rw [beq_eq_false_iff_ne]; omega
        have t9 : (k == 9) = false := by rw [beq_eq_false_iff_ne]; omega
        have t10 : (k == 10) = false := by rw [beq_eq_false_iff_ne]; omega
        have t11 : (k == 11) = false := by rw [beq_eq_false_iff_ne]; omega
        go_upto_region 8 with (fail)
        clear c2
        have HN := hide (rinst_g ZO.out.k)
        go_upto_region 9 with (first
          | (go_at_call 62; (with_reducible refine HN.out.mono ?_); rintro x w6 ⟨vi, i4, e4, rfl, hr, hg, hd, hp⟩; have ZO := hide (ZO.out.step hr hg); have G4 := hide hd; have c0 : w6.cell? ⟨h, 0, none⟩ = some (.int .i64 k) := ZO.out.c.k1; clear hr hg hd hp HN)
          | ((with_reducible refine wpList_store_li (p := vi.1) (q := vi.2) ?_ ?_ ZO.out.c ?_); rfl; rfl; intro w7 hn hg; have ZO := hide (ZO.out.put hn hg); have c0 : w7.cell? ⟨h, 0, none⟩ = some (.int .i64 k) := ZO.out.c.k1; clear hn hg))
        try simp only [Act.put]
        have HN := hide (rballot_g ZO.out.k)
        go_upto_region 11 with (first
          | (go_at_call 63; (with_reducible refine HN.out.mono ?_); rintro x w6 ⟨vb, i5, e5, rfl, hr, hg, hd, hp⟩; have ZO := hide (ZO.out.step hr hg); have G5 := hide hd; have c0 : w6.cell? ⟨h, 0, none⟩ = some (.int .i64 k) := ZO.out.c.k1; clear hr hg hd hp HN)
          | ((with_reducible refine wpList_store_lb (p := vb.1) (q := vb.2) ?_ ?_ ZO.out.c ?_); rfl; rfl; intro w7 hn hg; have ZO := hide (ZO.out.put hn hg); have c0 : w7.cell? ⟨h, 0, none⟩ = some (.int .i64 k) := ZO.out.c.k1; clear hn hg))
        try simp only [Act.put]
        go_upto_region 29 with (fail)
        clear c0 t1 t2 t3 t5 t7 t9 t10 t11 k9 k5
        have GM := hide (show Got (dLt0 zs 0) 0 ({ bare0 k f t with i := (vi.1, vi.2), b := (vb.1, vb.2) } : Lt) i5 e5 from by
          have h4 : e4 = e3 := G4.out.1 he
          have h5 : e5 = e4 := G5.out.1 (by rw [h4]; exact he)
          rw [dLt0_eq, h5, h4]
          exact HK.out.bnd (got_wrong he _ _))
        clear HK G4 G5
        have HE := got_end GM.out
        have WM := hide ZO.out.c.wf
        have hN := rend_to ZO.out.k
        obtain ⟨m, hm⟩ : ∃ m, ({ bare0 k f t with i := (vi.1, vi.2), b := (vb.1, vb.2) } : Lt) = m := ⟨_, rfl⟩
        rw [hm] at HE ZO WM
        clear GM hm
        obtain ⟨E, hE⟩ : ∃ E, rEndE zs i5 e5 = E := ⟨_, rfl⟩
        rw [hE] at HE hN
        have HN := hide hN
        clear hN hE
        by_cases h0 : E = 0
        · subst h0
          rw [if_pos rfl] at HE
          go_upto_region 32 with (go_at_call 67; (with_reducible refine HN.out.mono ?_); rintro x w10 ⟨rfl, hr, hg⟩; have ZO := hide (ZO.out.step hr hg); clear hr hg HN)
          have HR := fun w => rrightletter_any m WM.out w
          cases hq : rightLt m
          · rw [hq, if_neg (by decide)] at HE
            simp only [hq] at HR
            have HD := hide HE
            clear hq HE
            go_wp2_with (first
              | ((with_reducible refine wpList_load_lt ZO.out.c.wf ?_ ?_ ZO.out.c.all ?_); rfl; rfl)
              | (go_at_call 17; (with_reducible refine (HR _).mono ?_); rintro x w11 ⟨rfl, hb⟩; have ZO := hide (ZO.out.quiet hb); clear hb)
              | ((with_reducible refine wpList_build_no ?_ (fill_lz _) ?_); rfl)
              | ((with_reducible refine wpList_store_lw (y := zeroLt) wf_zeroLt ?_ ?_ ZO.out.z ?_); rfl; rfl; intro w12 hn hg; have HF := hide (And.intro hn (ZO.out.done hg)); clear hn hg))
            exact bodyPost_ret (results_lb Try.results22 rfl HF.out.1 rfl) rfl ⟨zeroLt, 4, rfl, HD.out, wf_zeroLt, HF.out.2⟩
          · rw [hq, if_pos rfl] at HE
            simp only [hq] at HR
            have HD := hide HE
            clear hq HE
            go_wp2_with (first
              | ((with_reducible refine wpList_load_lt ZO.out.c.wf ?_ ?_ ZO.out.c.all ?_); rfl; rfl)
              | (go_at_call 17; (with_reducible refine (HR _).mono ?_); rintro x w11 ⟨rfl, hb⟩; have ZO := hide (ZO.out.quiet hb); clear hb)
              | ((with_reducible refine wpList_store_lw (y := m) WM.out ?_ ?_ ZO.out.z ?_); rfl; rfl; intro w12 hn hg; have HF := hide (And.intro hn (ZO.out.done hg)); clear hn hg))
            exact bodyPost_ret (results_lb Try.results22 rfl HF.out.1 rfl) rfl ⟨m, 0, rfl, HD.out, WM.out, HF.out.2⟩
        · rw [if_neg h0] at HE
          have t0 : (E != 0) = true := by simpa using h0
          have HD := hide HE
          clear h0 HE
          go_wp2_with (first
            | (go_at_call 67; (with_reducible refine HN.out.mono ?_); rintro x w10 ⟨rfl, hr, hg⟩; have ZO := hide (ZO.out.step hr hg); clear hr hg HN)
            | ((with_reducible refine wpList_build_no ?_ (fill_lz _) ?_); rfl)
            | ((with_reducible refine wpList_store_lw (y := zeroLt) wf_zeroLt ?_ ?_ ZO.out.z ?_); rfl; rfl; intro w12 hn hg; have HF := hide (And.intro hn (ZO.out.done hg)); clear hn hg))
          exact bodyPost_ret (results_lb Try.results22 rfl HF.out.1 rfl) rfl ⟨zeroLt, E, rfl, HD.out, wf_zeroLt, HF.out.2⟩
      · have k11 : 11 < k := by omega
        have k9 : ¬ k < 9 := by omega
        have t1 : (k == 1) = false := by rw [beq_eq_false_iff_ne]; omega
        have t2 : (k == 2) = false := by rw [beq_eq_false_iff_ne]; omega
        have t3 : (k == 3) = false := by rw [beq_eq_false_iff_ne]; omega
        have t5 : (k == 5) = false := by rw [beq_eq_false_iff_ne]; omega
        have t7 : (k == 7) = false := by rw [beq_eq_false_iff_ne]; omega
        have t9 : (k == 9) = false := by rw [beq_eq_false_iff_ne]; omega
        have t10 : (k == 10) = false := by rw [beq_eq_false_iff_ne]; omega
        have t11 : (k == 11) = false := by rw [beq_eq_false_iff_ne]; omega
        go_upto_region 29 with (fail)
        clear c0 c2 t1 t2 t3 t5 t7 t9 t10 t11 k9 k11
        have GM := hide (show Got (dLt0 zs 0) 0 (bare0 k f t) i3 e3 from by rw [dLt0_eq]; exact HK.out.bnd (got_wrong he _ _))
        clear HK
        have HE := got_end GM.out
        have WM := hide ZO.out.c.wf
        have hN := rend_to ZO.out.k
        obtain ⟨m, hm⟩ : ∃ m, bare0 k f t = m := ⟨_, rfl⟩
        rw [hm] at HE ZO WM
        clear GM hm
        obtain ⟨E, hE⟩ : ∃ E, rEndE zs i3 e3 = E := ⟨_, rfl⟩
        rw [hE] at HE hN
        have HN := hide hN
        clear hN hE
        by_cases h0 : E = 0
        · subst h0
          rw [if_pos rfl] at HE
          go_upto_region 32 with (go_at_call 67; (with_reducible refine HN.out.mono ?_); rintro x w10 ⟨rfl, hr, hg⟩; have ZO := hide (ZO.out.step hr hg); clear hr hg HN)
          have HR := fun w => rrightletter_any m WM.out w
          cases hq : rightLt m
          · rw [hq, if_neg (by decide)] at HE
            simp only [hq] at HR
            have HD := hide HE
            clear hq HE
            go_wp2_with (first
              | ((with_reducible refine wpList_load_lt ZO.out.c.wf ?_ ?_ ZO.out.c.all ?_); rfl; rfl)
              | (go_at_call 17; (with_reducible refine (HR _).mono ?_); rintro x w11 ⟨rfl, hb⟩; have ZO := hide (ZO.out.quiet hb); clear hb)
              | ((with_reducible refine wpList_build_no ?_ (fill_lz _) ?_); rfl)
              | ((with_reducible refine wpList_store_lw (y := zeroLt) wf_zeroLt ?_ ?_ ZO.out.z ?_); rfl; rfl; intro w12 hn hg; have HF := hide (And.intro hn (ZO.out.done hg)); clear hn hg))
            exact bodyPost_ret (results_lb Try.results22 rfl HF.out.1 rfl) rfl ⟨zeroLt, 4, rfl, HD.out, wf_zeroLt, HF.out.2⟩
          · rw [hq, if_pos rfl] at HE
            simp only [hq] at HR
            have HD := hide HE
            clear hq HE
            go_wp2_with (first
              | ((with_reducible refine wpList_load_lt ZO.out.c.wf ?_ ?_ ZO.out.c.all ?_); rfl; rfl)
              | (go_at_call 17; (with_reducible refine (HR _).mono ?_); rintro x w11 ⟨rfl, hb⟩; have ZO := hide (ZO.out.quiet hb); clear hb)
              | ((with_reducible refine wpList_store_lw (y := m) WM.out ?_ ?_ ZO.out.z ?_); rfl; rfl; intro w12 hn hg; have HF := hide (And.intro hn (ZO.out.done hg)); clear hn hg))
            exact bodyPost_ret (results_lb Try.results22 rfl HF.out.1 rfl) rfl ⟨m, 0, rfl, HD.out, WM.out, HF.out.2⟩
        · rw [if_neg h0] at HE
          have t0 : (E != 0) = true := by simpa using h0
          have HD := hide HE
          clear h0 HE
          go_wp2_with (first
            | (go_at_call 67; (with_reducible refine HN.out.mono ?_); rintro x w10 ⟨rfl, hr, hg⟩; have ZO := hide (ZO.out.step hr hg); clear hr hg HN)
            | ((with_reducible refine wpList_build_no ?_ (fill_lz _) ?_); rfl)
            | ((with_reducible refine wpList_store_lw (y := zeroLt) wf_zeroLt ?_ ?_ ZO.out.z ?_); rfl; rfl; intro w12 hn hg; have HF := hide (And.intro hn (ZO.out.done hg)); clear hn hg))
          exact bodyPost_ret (results_lb Try.results22 rfl HF.out.1 rfl) rfl ⟨zeroLt, E, rfl, HD.out, wf_zeroLt, HF.out.2⟩
end Go.Proofs.Ytlnpfaoeockoiaa
