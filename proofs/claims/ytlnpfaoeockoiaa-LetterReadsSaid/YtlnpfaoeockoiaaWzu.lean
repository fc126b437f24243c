/- The document's getCommand, GetCell. Conditions: the reader lies in memory as it must. -/
import Derived.Test.YtlnpfaoeockoiaaWzt
namespace Go.Proofs.Ytlnpfaoeockoiaa
set_option maxRecDepth 100000
open Go.RowKit
theorem zero_cm : (#[.int .i64 0, .int .i64 0, .int .i64 0, .string ⟨#[]⟩, .string ⟨#[]⟩, .string ⟨#[]⟩, .string ⟨#[]⟩] : Array Value) = rowC zeroC := rfl
theorem fill_cm0 (k : Int) (w : World) : (Instr.build 29 #[(0, .int .i64 k)]).run Try.prog w = .ok (.agg (rowC { zeroC with k := k })) w := by kernel_rfl
theorem cm_all (c : Cm) : (rowC c).all (·.oneCell') = true := all_oneCell_toArray (cs := c.l) (one_cm c)
theorem cm_range {w : World} {g : Nat} {t : TypeId} {c : Cm} (h : Row w g t (rowC c)) : w.rangeAt g 0 c.l := h.mid (A := []) (ys := c.l) (B := []) (by rfl) rfl
theorem results_cm {fn : Func} {tmps : Array Value} {w : World} {a h : Nat} {t : TypeId} {c : Cm} (hf : fn.results = #[.cell a 29]) (ht : tmps.getD a undef = .pointer (some ⟨h, 0, none⟩)) (R : Row w h t (rowC c)) :
    (results fn tmps).run Try.prog w = .ok (.agg (rowC c)) w :=
  results_cell_row hf tmps w h t _ _ _ ht R cm_under rfl cm_info
theorem rright_cc (c : Cm) (w : World) : Calls Try.prog 39 #[.agg #[.int .i64 c.k, .int .i64 c.c, .int .i64 c.q, .string c.key, .string c.en, .string c.old, .string c.val]] w fun e w' => e = .returned (.bool (rightC c)) ∧ Below w.heap.size w w' := rright_to c.k c.c c.q c.key c.en c.old c.val w
theorem got_cond {α : Type} {d : Rdm α} {e e' : Int} {v : α} {i' : Nat} {b : Bool} (h : Got d e v i' (if b then e' else rFailE e')) (he : e' ≠ 0) : Got d e v i' e' := by
  have : rFailE e' = e' := by unfold rFailE; rw [if_neg he]
  rw [this] at h
  split at h <;> exact h
/-- Behind the reading: the command is held against Right. -/
structure Ty (w : World) (B g : Nat) (zs : List Int) (i : Nat) (e : Int) (w' : World) (h : Nat) (c : Cm) (i' : Nat) (e' : Int) : Prop where
  z : Zr 59 29 w w' B g zs i' e' w.heap.size h (rowC zeroC) (rowC c)
  g : Got (dCm0 zs i) e c i' e'
set_option maxHeartbeats 32000000 in
theorem rcmd_g {w : World} {B g i : Nat} {zs : List Int} {e : Int} (h : Rdr 59 w B g zs i e) :
    Calls Try.prog 64 #[.pointer (some ⟨g, 0, none⟩)] w (ReadG 59 w B g zs (fun c : Cm => .agg #[.int .i64 c.k, .int .i64 c.c, .int .i64 c.q, .string c.key, .string c.en, .string c.old, .string c.val]) (dCm zs i) e yes) := by
  have S0 := hide ((Rg.start h).alloc (.cells (rowC zeroC) 29))
  have HA := hide (Row.new w 29 (rowC zeroC))
  have hlt := h.lt
  have HNE := hide (ne_some (show w.heap.size ≠ g by omega))
  clear h hlt
  go_enter Try.func64, Try.ntmps64
  go_upto_region 1 with (fail)
  rw [zero_cm]
  generalize w.alloc (.cells (rowC zeroC) 29) = w0 at S0 HA ⊢
  have HN := hide (rnum_g S0.out.r)
  go_upto_region 2 with (first
    | (go_at_call 61; (with_reducible refine HN.out.mono ?_); rintro x w1 ⟨k, i1, e1, rfl, hr, hg, hd, hp⟩; have S0 := hide (S0.out.step hr hg); have HA := hide (HA.out.grown hg HNE.out); have G1 := hide hd; clear hr hg hd hp HN)
    | ((with_reducible refine wpList_build_one (i := 0) (u := .int .i64 k) ?_ ?_ (fill_cm0 k _) ?_); rfl; rfl)
    | ((with_reducible refine wpList_store_new (vs := rowC { zeroC with k := k }) ?_ ?_ (cm_all _) ?_ ?_ ?_); exact cm_info; rfl; rfl; rfl))
  try simp only [Act.put]
  have ZR := hide (show Zr 59 29 w (w1.alloc (.cells (rowC { zeroC with k := k }) 29)) B g zs i1 e1 w.heap.size w1.heap.size (rowC zeroC) (rowC { zeroC with k := k }) from Zr.start S0.out HA.out (Nat.le_refl _) _)
  clear S0 HA HNE
  generalize w1.alloc (.cells (rowC _) 29) = w2 at ZR ⊢
  generalize w1.heap.size = h at ZR ⊢
  obtain ⟨c2, f2⟩ := ZR.out.k.r.err2
  have c0 : w2.cell? ⟨h, 0, none⟩ = some (.int .i64 k) := ZR.out.c.cell 0
  by_cases he1 : e1 = 0
  · subst he1
    by_cases hk0 : k = 0
    · subst hk0
      have TY := hide (show Ty w B g zs i e w2 h zeroC i1 0 from ⟨ZR.out, by unfold dCm0; exact G1.out.bnd (by rw [if_pos rfl]; exact Got.ok _ _ _)⟩)
      clear ZR G1
      go_upto_region 14 with (fail)
      clear c0 c2 f2
      have HR := fun w => rright_cc (zeroC) w
      have HG := TY.out.g.chk rightC
      obtain ⟨c2, f2⟩ := TY.out.z.k.r.err2
      cases hq : rightC (zeroC)
      · simp only [hq, Bool.false_eq_true, if_false] at HR HG
        have HGG := hide (show Got (dCm zs i) e (zeroC) i1 4 from HG)
        have TY := hide TY.out.z
        clear HG hq
        go_upto_region 15 with (first
          | ((with_reducible refine wpList_load_cm (y := (zeroC)) ?_ ?_ (cm_range TY.out.c) ?_); rfl; rfl)
          | (go_at_call 39; (with_reducible refine (HR _).mono ?_); rintro x w5 ⟨rfl, hb⟩; have TY := hide (TY.out.quiet hb); clear hb))
        clear c2 f2
        obtain ⟨c2, f2⟩ := TY.out.k.r.err2
        have TY := hide TY.out.wrong
        go_upto_region 16 with (fail)
        clear c2 f2
        generalize w5.setCell _ _ = w6 at TY ⊢
        go_wp2_with (first
          | ((with_reducible refine wpList_load_cm (y := (zeroC)) ?_ ?_ (cm_range TY.out.c) ?_); rfl; rfl)
          | ((with_reducible refine wpList_store_rw (vs := Cm.l (zeroC)) ?_ ?_ (one_cm _) ?_ ?_ TY.out.z ?_); exact cm_info; rfl; rfl; rfl; intro w7 hn hg; have HF := hide (And.intro hn (TY.out.k.put hg TY.out.lr)); clear hn hg))
        exact bodyPost_ret (results_cm (c := (zeroC)) Try.results64 rfl HF.out.1) rfl (readG_of (v := (zeroC)) rfl HF.out.2 HGG.out trivial)
      · simp only [hq, if_true] at HR HG
        have HGG := hide (show Got (dCm zs i) e (zeroC) i1 0 from HG)
        have TY := hide TY.out.z
        clear HG hq
        go_upto_region 16 with (first
          | ((with_reducible refine wpList_load_cm (y := (zeroC)) ?_ ?_ (cm_range TY.out.c) ?_); rfl; rfl)
          | (go_at_call 39; (with_reducible refine (HR _).mono ?_); rintro x w5 ⟨rfl, hb⟩; have TY := hide (TY.out.quiet hb); clear hb))
        clear c2 f2
        go_wp2_with (first
          | ((with_reducible refine wpList_load_cm (y := (zeroC)) ?_ ?_ (cm_range TY.out.c) ?_); rfl; rfl)
          | ((with_reducible refine wpList_store_rw (vs := Cm.l (zeroC)) ?_ ?_ (one_cm _) ?_ ?_ TY.out.z ?_); exact cm_info; rfl; rfl; rfl; intro w7 hn hg; have HF := hide (And.intro hn (TY.out.k.put hg TY.out.lr)); clear hn hg))
        exact bodyPost_ret (results_cm (c := (zeroC)) Try.results64 rfl HF.out.1) rfl (readG_of (v := (zeroC)) rfl HF.out.2 HGG.out trivial)
    · have tk : (k == 0) = false := by simpa using hk0
      have tk' : (k != 0) = true := by simpa using hk0
      have HK0 := hide hk0
      clear hk0
      go_upto_region 3 with (fail)
      clear c0 c2 f2 tk tk'
      have HN := hide (rnum_g ZR.out.k.r)
      go_upto_region 4 with (first
        | (go_at_call 61; (with_reducible refine HN.out.mono ?_); rintro x w3 ⟨cc, i2, e2, rfl, hr, hg, hd, hp⟩; have ZR := hide (ZR.out.step hr hg); have G2 := hide hd; clear hr hg hd hp HN)
        | ((with_reducible refine wpList_store_ri (j := 1) (n := cc) ?_ ?_ ?_ ZR.out.c ?_); exact (by decide : 1 < 7); rfl; rfl; intro w4 hn hg; have ZR := hide (ZR.out.put (cs' := rowC { zeroC with k := k, c := cc }) hn hg); clear hn hg))
      try simp only [Act.put]
      have HN := hide (rnum_g ZR.out.k.r)
      go_upto_region 5 with (first
        | (go_at_call 61; (with_reducible refine HN.out.mono ?_); rintro x w3 ⟨cq, i3, e3, rfl, hr, hg, hd, hp⟩; have ZR := hide (ZR.out.step hr hg); have G3 := hide hd; clear hr hg hd hp HN)
        | ((with_reducible refine wpList_store_ri (j := 2) (n := cq) ?_ ?_ ?_ ZR.out.c ?_); exact (by decide : 2 < 7); rfl; rfl; intro w4 hn hg; have ZR := hide (ZR.out.put (cs' := rowC { zeroC with k := k, c := cc, q := cq }) hn hg); clear hn hg))
      try simp only [Act.put]
      have HN := hide (rtext_g ZR.out.k.r 16)
      go_upto_region 6 with (first
        | (go_at_call 66; (with_reducible refine HN.out.mono ?_); rintro x w3 ⟨ca, i4, e4, rfl, hr, hg, hd, hp⟩; have ZR := hide (ZR.out.step hr hg); have G4 := hide hd; clear hr hg hd hp HN)
        | ((with_reducible refine wpList_store_rs (j := 3) (n := ca) ?_ ?_ ?_ ZR.out.c ?_); exact (by decide : 3 < 7); rfl; rfl; intro w4 hn hg; have ZR := hide (ZR.out.put (cs' := rowC { zeroC with k := k, c := cc, q := cq, key := ca }) hn hg); clear hn hg))
      try simp only [Act.put]
      have c0 : w4.cell? ⟨h, 0, none⟩ = some (.int .i64 k) := ZR.out.c.cell 0
      by_cases hk2 : k = 2
      · subst hk2
        go_upto_region 8 with (fail)
        clear c0
        have HN := hide (rtext_g ZR.out.k.r 64)
        go_upto_region 14 with (first
          | (go_at_call 66; (with_reducible refine HN.out.mono ?_); rintro x w3 ⟨cv, i5, e5, rfl, hr, hg, hd, hp⟩; have ZR := hide (ZR.out.step hr hg); have G5 := hide hd; clear hr hg hd hp HN)
          | ((with_reducible refine wpList_store_rs (j := 6) (n := cv) ?_ ?_ ?_ ZR.out.c ?_); exact (by decide : 6 < 7); rfl; rfl; intro w4 hn hg; have ZR := hide (ZR.out.put (cs' := rowC { zeroC with k := 2, c := cc, q := cq, key := ca, val := cv }) hn hg); clear hn hg))
        try simp only [Act.put]
        have TY := hide (show Ty w B g zs i e w4 h { zeroC with k := 2, c := cc, q := cq, key := ca, val := cv } i5 e5 from ⟨ZR.out, by unfold dCm0; exact G1.out.bnd (by rw [if_neg HK0.out]; exact G2.out.bnd (G3.out.bnd (G4.out.bnd (by rw [if_pos rfl]; exact G5.out.bnd (Got.ok _ _ _)))))⟩)
        have HR := fun w => rright_cc ({ zeroC with k := 2, c := cc, q := cq, key := ca, val := cv } : Cm) w
        have HG := TY.out.g.chk rightC
        obtain ⟨c2, f2⟩ := TY.out.z.k.r.err2
        by_cases he : e5 = 0
        · subst he
          cases hq : rightC ({ zeroC with k := 2, c := cc, q := cq, key := ca, val := cv } : Cm)
          · simp only [hq, Bool.false_eq_true, if_false] at HR HG
            have HGG := hide (show Got (dCm zs i) e ({ zeroC with k := 2, c := cc, q := cq, key := ca, val := cv } : Cm) i5 4 from HG)
            have TY := hide TY.out.z
            clear HG hq
            go_upto_region 15 with (first
              | ((with_reducible refine wpList_load_cm (y := ({ zeroC with k := 2, c := cc, q := cq, key := ca, val := cv } : Cm)) ?_ ?_ (cm_range TY.out.c) ?_); rfl; rfl)
              | (go_at_call 39; (with_reducible refine (HR _).mono ?_); rintro x w5 ⟨rfl, hb⟩; have TY := hide (TY.out.quiet hb); clear hb))
            clear c2 f2
            obtain ⟨c2, f2⟩ := TY.out.k.r.err2
            have TY := hide TY.out.wrong
            go_upto_region 16 with (fail)
            clear c2 f2
            generalize w5.setCell _ _ = w6 at TY ⊢
            go_wp2_with (first
              | ((with_reducible refine wpList_load_cm (y := ({ zeroC with k := 2, c := cc, q := cq, key := ca, val := cv } : Cm)) ?_ ?_ (cm_range TY.out.c) ?_); rfl; rfl)
              | ((with_reducible refine wpList_store_rw (vs := Cm.l ({ zeroC with k := 2, c := cc, q := cq, key := ca, val := cv } : Cm)) ?_ ?_ (one_cm _) ?_ ?_ TY.out.z ?_); exact cm_info; rfl; rfl; rfl; intro w7 hn hg; have HF := hide (And.intro hn (TY.out.k.put hg TY.out.lr)); clear hn hg))
            exact bodyPost_ret (results_cm (c := ({ zeroC with k := 2, c := cc, q := cq, key := ca, val := cv } : Cm)) Try.results64 rfl HF.out.1) rfl (readG_of (v := ({ zeroC with k := 2, c := cc, q := cq, key := ca, val := cv } : Cm)) rfl HF.out.2 HGG.out trivial)
          · simp only [hq, if_true] at HR HG
            have HGG := hide (show Got (dCm zs i) e ({ zeroC with k := 2, c := cc, q := cq, key := ca, val := cv } : Cm) i5 0 from HG)
            have TY := hide TY.out.z
            clear HG hq
            go_upto_region 16 with (first
              | ((with_reducible refine wpList_load_cm (y := ({ zeroC with k := 2, c := cc, q := cq, key := ca, val := cv } : Cm)) ?_ ?_ (cm_range TY.out.c) ?_); rfl; rfl)
              | (go_at_call 39; (with_reducible refine (HR _).mono ?_); rintro x w5 ⟨rfl, hb⟩; have TY := hide (TY.out.quiet hb); clear hb))
            clear c2 f2
            go_wp2_with (first
              | ((with_reducible refine wpList_load_cm (y := ({ zeroC with k := 2, c := cc, q := cq, key := ca, val := cv } : Cm)) ?_ ?_ (cm_range TY.out.c) ?_); rfl; rfl)
              | ((with_reducible refine wpList_store_rw (vs := Cm.l ({ zeroC with k := 2, c := cc, q := cq, key := ca, val := cv } : Cm)) ?_ ?_ (one_cm _) ?_ ?_ TY.out.z ?_); exact cm_info; rfl; rfl; rfl; intro w7 hn hg; have HF := hide (And.intro hn (TY.out.k.put hg TY.out.lr)); clear hn hg))
            exact bodyPost_ret (results_cm (c := ({ zeroC with k := 2, c := cc, q := cq, key := ca, val := cv } : Cm)) Try.results64 rfl HF.out.1) rfl (readG_of (v := ({ zeroC with k := 2, c := cc, q := cq, key := ca, val := cv } : Cm)) rfl HF.out.2 HGG.out trivial)
        · have te2 : (e5 == 0) = false := by simpa using he
          have HGG := hide (show Got (dCm zs i) e ({ zeroC with k := 2, c := cc, q := cq, key := ca, val := cv } : Cm) i5 e5 from got_cond HG he)
          have TY := hide TY.out.z
          clear HG he
          go_upto_region 16 with (fail)
          clear c2 f2
          go_wp2_with (first
            | ((with_reducible refine wpList_load_cm (y := ({ zeroC with k := 2, c := cc, q := cq, key := ca, val := cv } : Cm)) ?_ ?_ (cm_range TY.out.c) ?_); rfl; rfl)
            | ((with_reducible refine wpList_store_rw (vs := Cm.l ({ zeroC with k := 2, c := cc, q := cq, key := ca, val := cv } : Cm)) ?_ ?_ (one_cm _) ?_ ?_ TY.out.z ?_); exact cm_info; rfl; rfl; rfl; intro w7 hn hg; have HF := hide (And.intro hn (TY.out.k.put hg TY.out.lr)); clear hn hg))
          exact bodyPost_ret (results_cm (c := ({ zeroC with k := 2, c := cc, q := cq, key := ca, val := cv } : Cm)) Try.results64 rfl HF.out.1) rfl (readG_of (v := ({ zeroC with k := 2, c := cc, q := cq, key := ca, val := cv } : Cm)) rfl HF.out.2 HGG.out trivial)
      · have t2 : (k == 2) = false := by simpa using hk2
        by_cases hk4 : k = 4
        · subst hk4
          go_upto_region 10 with (fail)
          clear c0 t2
          have HN := hide (rtext_g ZR.out.k.r 64)
          go_upto_region 11 with (first
            | (go_at_call 66; (with_reducible refine HN.out.mono ?_); rintro x w3 ⟨co, i5, e5, rfl, hr, hg, hd, hp⟩; have ZR := hide (ZR.out.step hr hg); have G5 := hide hd; clear hr hg hd hp HN)
            | ((with_reducible refine wpList_store_rs (j := 5) (n := co) ?_ ?_ ?_ ZR.out.c ?_); exact (by decide : 5 < 7); rfl; rfl; intro w4 hn hg; have ZR := hide (ZR.out.put (cs' := rowC { zeroC with k := 4, c := cc, q := cq, key := ca, old := co }) hn hg); clear hn hg))
          try simp only [Act.put]
          have HN := hide (rtext_g ZR.out.k.r 64)
          go_upto_region 14 with (first
            | (go_at_call 66; (with_reducible refine HN.out.mono ?_); rintro x w3 ⟨cv, i6, e6, rfl, hr, hg, hd, hp⟩; have ZR := hide (ZR.out.step hr hg); have G6 := hide hd; clear hr hg hd hp HN)
            | ((with_reducible refine wpList_store_rs (j := 6) (n := cv) ?_ ?_ ?_ ZR.out.c ?_); exact (by decide : 6 < 7); rfl; rfl; intro w4 hn hg; have ZR := hide (ZR.out.put (cs' := rowC { zeroC with k := 4, c := cc, q := cq, key := ca, old := co, val := cv }) hn hg); clear hn hg))
          try simp only [Act.put]
          have TY := hide (show Ty w B g zs i e w4 h { zeroC with k := 4, c := cc, q := cq, key := ca, old := co, val := cv } i6 e6 from ⟨ZR.out, by unfold dCm0; exact G1.out.bnd (by rw [if_neg HK0.out]; exact G2.out.bnd (G3.out.bnd (G4.out.bnd (by rw [if_neg hk2, if_pos rfl]; exact G5.out.bnd (G6.out.bnd (Got.ok _ _ _))))))⟩)
          have HR := fun w => rright_cc ({ zeroC with k := 4, c := cc, q := cq, key := ca, old := co, val := cv } : Cm) w
          have HG := TY.out.g.chk rightC
          obtain ⟨c2, f2⟩ := TY.out.z.k.r.err2
          by_cases he : e6 = 0
          · subst he
            cases hq : rightC ({ zeroC with k := 4, c := cc, q := cq, key := ca, old := co, val := cv } : Cm)
            · simp only [hq, Bool.false_eq_true, if_false] at HR HG
              have HGG := hide (show Got (dCm zs i) e ({ zeroC with k := 4, c := cc, q := cq, key := ca, old := co, val := cv } : Cm) i6 4 from HG)
              have TY := hide TY.out.z
              clear HG hq
              go_upto_region 15 with (first
                | ((with_reducible refine wpList_load_cm (y := ({ zeroC with k := 4, c := cc, q := cq, key := ca, old := co, val := cv } : Cm)) ?_ ?_ (cm_range TY.out.c) ?_); rfl; rfl)
                | (go_at_call 39; (with_reducible refine (HR _).mono ?_); rintro x w5 ⟨rfl, hb⟩; have TY := hide (TY.out.quiet hb); clear hb))
              clear c2 f2
              obtain ⟨c2, f2⟩ := TY.out.k.r.err2
              have TY := hide TY.out.wrong
              go_upto_region 16 with (fail)
              clear c2 f2
              generalize w5.setCell _ _ = w6 at TY ⊢
              go_wp2_with (first
                | ((with_reducible refine wpList_load_cm (y := ({ zeroC with k := 4, c := cc, q := cq, key := ca, old := co, val := cv } : Cm)) ?_ ?_ (cm_range TY.out.c) ?_); rfl; rfl)
                | ((with_reducible refine wpList_store_rw (vs := Cm.l ({ zeroC with k := 4, c := cc, q := cq, key := ca, old := co, val := cv } : Cm)) ?_ ?_ (one_cm _) ?_ ?_ TY.out.z ?_); exact cm_info; rfl; rfl; rfl; intro w7 hn hg; have HF := hide (And.intro hn (TY.out.k.put hg TY.out.lr)); clear hn hg))
              exact bodyPost_ret (results_cm (c := ({ zeroC with k := 4, c := cc, q := cq, key := ca, old := co, val := cv } : Cm)) Try.results64 rfl HF.out.1) rfl (readG_of (v := ({ zeroC with k := 4, c := cc, q := cq, key := ca, old := co, val := cv } : Cm)) rfl HF.out.2 HGG.out trivial)
            · simp only [hq, if_true] at HR HG
              have HGG := hide (show Got (dCm zs i) e ({ zeroC with k := 4, c := cc, q := cq, key := ca, old := co, val := cv } : Cm) i6 0 from HG)
              have TY := hide TY.out.z
              clear HG hq
              go_upto_region 16 with (first
                | ((with_reducible refine wpList_load_cm (y := ({ zeroC with k := 4, c := cc, q := cq, key := ca, old := co, val := cv } : Cm)) ?_ ?_ (cm_range TY.out.c) ?_); rfl; rfl)
                | (go_at_call 39; (with_reducible refine (HR _).mono ?_); rintro x w5 ⟨rfl, hb⟩; have TY := hide (TY.out.quiet hb); clear hb))
              clear c2 f2
              go_wp2_with (first
                | ((with_reducible refine wpList_load_cm (y := ({ zeroC with k := 4, c := cc, q := cq, key := ca, old := co, val := cv } : Cm)) ?_ ?_ (cm_range TY.out.c) ?_); rfl; rfl)
                | ((with_reducible refine wpList_store_rw (vs := Cm.l ({ zeroC with k := 4, c := cc, q := cq, key := ca, old := co, val := cv } : Cm)) ?_ ?_ (one_cm _) ?_ ?_ TY.out.z ?_); exact cm_info; rfl; rfl; rfl; intro w7 hn hg; have HF := hide (And.intro hn (TY.out.k.put hg TY.out.lr)); clear hn hg))
              exact bodyPost_ret (results_cm (c := ({ zeroC with k := 4, c := cc, q := cq, key := ca, old := co, val := cv } : Cm)) Try.results64 rfl HF.out.1) rfl (readG_of (v := ({ zeroC with k := 4, c := cc, q := cq, key := ca, old := co, val := cv } : Cm)) rfl HF.out.2 HGG.out trivial)
          · have te2 : (e6 == 0) = false := by simpa using he
            have HGG := hide (show Got (dCm zs i) e ({ zeroC with k := 4, c := cc, q := cq, key := ca, old := co, val := cv } : Cm) i6 e6 from got_cond HG he)
            have TY := hide TY.out.z
            clear HG he
            go_upto_region 16 with (fail)
            clear c2 f2
            go_wp2_with (first
              | ((with_reducible refine wpList_load_cm (y := ({ zeroC with k := 4, c := cc, q := cq, key := ca, old := co, val := cv } : Cm)) ?_ ?_ (cm_range TY.out.c) ?_); rfl; rfl)
              | ((with_reducible refine wpList_store_rw (vs := Cm.l ({ zeroC with k := 4, c := cc, q := cq, key := ca, old := co, val := cv } : Cm)) ?_ ?_ (one_cm _) ?_ ?_ TY.out.z ?_); exact cm_info; rfl; rfl; rfl; intro w7 hn hg; have HF := hide (And.intro hn (TY.out.k.put hg TY.out.lr)); clear hn hg))
            exact bodyPost_ret (results_cm (c := ({ zeroC with k := 4, c := cc, q := cq, key := ca, old := co, val := cv } : Cm)) Try.results64 rfl HF.out.1) rfl (readG_of (v := ({ zeroC with k := 4, c := cc, q := cq, key := ca, old := co, val := cv } : Cm)) rfl HF.out.2 HGG.out trivial)
        · have t4 : (k == 4) = false := by simpa using hk4
          by_cases hk5 : k = 5
          · subst hk5
            go_upto_region 13 with (fail)
            clear c0 t2 t4
            have HN := hide (rtext_g ZR.out.k.r 16)
            go_upto_region 14 with (first
              | (go_at_call 66; (with_reducible refine HN.out.mono ?_); rintro x w3 ⟨cb, i5, e5, rfl, hr, hg, hd, hp⟩; have ZR := hide (ZR.out.step hr hg); have G5 := hide hd; clear hr hg hd hp HN)
              | ((with_reducible refine wpList_store_rs (j := 4) (n := cb) ?_ ?_ ?_ ZR.out.c ?_); exact (by decide : 4 < 7); rfl; rfl; intro w4 hn hg; have ZR := hide (ZR.out.put (cs' := rowC { zeroC with k := 5, c := cc, q := cq, key := ca, en := cb }) hn hg); clear hn hg))
            try simp only [Act.put]
            have TY := hide (show Ty w B g zs i e w4 h { zeroC with k := 5, c := cc, q := cq, key := ca, en := cb } i5 e5 from ⟨ZR.out, by unfold dCm0; exact G1.out.bnd (by rw [if_neg HK0.out]; exact G2.out.bnd (G3.out.bnd (G4.out.bnd (by rw [if_neg hk2, if_neg hk4, if_pos rfl]; exact G5.out.bnd (Got.ok _ _ _)))))⟩)
            have HR := fun w => rright_cc ({ zeroC with k := 5, c := cc, q := cq, key := ca, en := cb } : Cm) w
            have HG := TY.out.g.chk rightC
            obtain ⟨c2, f2⟩ := TY.out.z.k.r.err2
            by_cases he : e5 = 0
            · subst he
              cases hq : rightC ({ zeroC with k := 5, c := cc, q := cq, key := ca, en := cb } : Cm)
              · simp only [hq, Bool.false_eq_true, if_false] at HR HG
                have HGG := hide (show Got (dCm zs i) e ({ zeroC with k := 5, c := cc, q := cq, key := ca, en := cb } : Cm) i5 4 from HG)
                have TY := hide TY.out.z
                clear HG hq
                go_upto_region 15 with (first
                  | ((with_reducible refine wpList_load_cm (y := ({ zeroC with k := 5, c := cc, q := cq, key := ca, en := cb } : Cm)) ?_ ?_ (cm_range TY.out.c) ?_); rfl; rfl)
                  | (go_at_call 39; (with_reducible refine (HR _).mono ?_); rintro x w5 ⟨rfl, hb⟩; have TY := hide (TY.out.quiet hb); clear hb))
                clear c2 f2
                obtain ⟨c2, f2⟩ := TY.out.k.r.err2
                have TY := hide TY.out.wrong
                go_upto_region 16 with (fail)
                clear c2 f2
                generalize w5.setCell _ _ = w6 at TY ⊢
                go_wp2_with (first
                  | ((with_reducible refine wpList_load_cm (y := ({ zeroC with k := 5, c := cc, q := cq, key := ca, en := cb } : Cm)) ?_ ?_ (cm_range TY.out.c) ?_); rfl; rfl)
                  | ((with_reducible refine wpList_store_rw (vs := Cm.l ({ zeroC with k := 5, c := cc, q := cq, key := ca, en := cb } : Cm)) ?_ ?_ (one_cm _) ?_ ?_ TY.out.z ?_); exact cm_info; rfl; rfl; rfl; intro w7 hn hg; have HF := hide (And.intro hn (TY.out.k.put hg TY.out.lr)); clear hn hg))
                exact bodyPost_ret (results_cm (c := ({ zeroC with k := 5, c := cc, q := cq, key := ca, en := cb } : Cm)) Try.results64 rfl HF.out.1) rfl (readG_of (v := ({ zeroC with k := 5, c := cc, q := cq, key := ca, en := cb } : Cm)) rfl HF.out.2 HGG.out trivial)
              · simp only [hq, if_true] at HR HG
                have HGG := hide (show Got (dCm zs i) e ({ zeroC with k := 5, c := cc, q := cq, key := ca, en := cb } : Cm) i5 0 from HG)
                have TY := hide TY.out.z
                clear HG hq
                go_upto_region 16 with (first
                  | ((with_reducible refine wpList_load_cm (y := ({ zeroC with k := 5, c := cc, q := cq, key := ca, en := cb } : Cm)) ?_ ?_ (cm_range TY.out.c) ?_); rfl; rfl)
                  | (go_at_call 39; (with_reducible refine (HR _).mono ?_); rintro x w5 ⟨rfl, hb⟩; have TY := hide (TY.out.quiet hb); clear hb))
                clear c2 f2
                go_wp2_with (first
                  | ((with_reducible refine wpList_load_cm (y := ({ zeroC with k := 5, c := cc, q := cq, key := ca, en := cb } : Cm)) ?_ ?_ (cm_range TY.out.c) ?_); rfl; rfl)
                  | ((with_reducible refine wpList_store_rw (vs := Cm.l ({ zeroC with k := 5, c := cc, q := cq, key := ca, en := cb } : Cm)) ?_ ?_ (one_cm _) ?_ ?_ TY.out.z ?_); exact cm_info; rfl; rfl; rfl; intro w7 hn hg; have HF := hide (And.intro hn (TY.out.k.put hg TY.out.lr)); clear hn hg))
                exact bodyPost_ret (results_cm (c := ({ zeroC with k := 5, c := cc, q := cq, key := ca, en := cb } : Cm)) Try.results64 rfl HF.out.1) rfl (readG_of (v := ({ zeroC with k := 5, c := cc, q := cq, key := ca, en := cb } : Cm)) rfl HF.out.2 HGG.out trivial)
            · have te2 : (e5 == 0) = false := by simpa using he
              have HGG := hide (show Got (dCm zs i) e ({ zeroC with k := 5, c := cc, q := cq, key := ca, en := cb } : Cm) i5 e5 from got_cond HG he)
              have TY := hide TY.out.z
              clear HG he
              go_upto_region 16 with (fail)
              clear c2 f2
              go_wp2_with (first
                | ((with_reducible refine wpList_load_cm (y := ({ zeroC with k := 5, c := cc, q := cq, key := ca, en := cb } : Cm)) ?_ ?_ (cm_range TY.out.c) ?_); rfl; rfl)
                | ((with_reducible refine wpList_store_rw (vs := Cm.l ({ zeroC with k := 5, c := cc, q := cq, key := ca, en := cb } : Cm)) ?_ ?_ (one_cm _) ?_ ?_ TY.out.z ?_); exact cm_info; rfl; rfl; rfl; intro w7 hn hg; have HF := hide (And.intro hn (TY.out.k.put hg TY.out.lr)); clear hn hg))
              exact bodyPost_ret (results_cm (c := ({ zeroC with k := 5, c := cc, q := cq, key := ca, en := cb } : Cm)) Try.results64 rfl HF.out.1) rfl (readG_of (v := ({ zeroC with k := 5, c := cc, q := cq, key := ca, en := cb } : Cm)) rfl HF.out.2 HGG.out trivial)
          · have t5 : (k == 5) = false := by simpa using hk5
            have TY := hide (show Ty w B g zs i e w4 h { zeroC with k := k, c := cc, q := cq, key := ca } i4 e4 from ⟨ZR.out, by unfold dCm0; exact G1.out.bnd (by rw [if_neg HK0.out]; exact G2.out.bnd (G3.out.bnd (G4.out.bnd (by rw [if_neg hk2, if_neg hk4, if_neg hk5]; exact Got.ok _ _ _))))⟩)
            go_upto_region 14 with (fail)
            clear c0 t2 t4 t5
            have HR := fun w => rright_cc ({ zeroC with k := k, c := cc, q := cq, key := ca } : Cm) w
            have HG := TY.out.g.chk rightC
            obtain ⟨c2, f2⟩ := TY.out.z.k.r.err2
            by_cases he : e4 = 0
            · subst he
              cases hq : rightC ({ zeroC with k := k, c := cc, q := cq, key := ca } : Cm)
              · simp only [hq, Bool.false_eq_true, if_false] at HR HG
                have HGG := hide (show Got (dCm zs i) e ({ zeroC with k := k, c := cc, q := cq, key := ca } : Cm) i4 4 from HG)
                have TY := hide TY.out.z
                clear HG hq
                go_upto_region 15 with (first
                  | ((with_reducible refine wpList_load_cm (y := ({ zeroC with k := k, c := cc, q := cq, key := ca } : Cm)) ?_ ?_ (cm_range TY.out.c) ?_); rfl; rfl)
                  | (go_at_call 39; (with_reducible refine (HR _).mono ?_); rintro x w5 ⟨rfl, hb⟩; have TY := hide (TY.out.quiet hb); clear hb))
                clear c2 f2
                obtain ⟨c2, f2⟩ := TY.out.k.r.err2
                have TY := hide TY.out.wrong
                go_upto_region 16 with (fail)
                clear c2 f2
                generalize w5.setCell _ _ = w6 at TY ⊢
                go_wp2_with (first
                  | ((with_reducible refine wpList_load_cm (y := ({ zeroC with k := k, c := cc, q := cq, key := ca } : Cm)) ?_ ?_ (cm_range TY.out.c) ?_); rfl; rfl)
                  | ((with_reducible refine wpList_store_rw (vs := Cm.l ({ zeroC with k := k, c := cc, q := cq, key := ca } : Cm)) ?_ ?_ (one_cm _) ?_ ?_ TY.out.z ?_); exact cm_info; rfl; rfl; rfl; intro w7 hn hg; have HF := hide (And.intro hn (TY.out.k.put hg TY.out.lr)); clear hn hg))
                exact bodyPost_ret (results_cm (c := ({ zeroC with k := k, c := cc, q := cq, key := ca } : Cm)) Try.results64 rfl HF.out.1) rfl (readG_of (v := ({ zeroC with k := k, c := cc, q := cq, key := ca } : Cm)) rfl HF.out.2 HGG.out trivial)
              · simp only [hq, if_true] at HR HG
                have HGG := hide (show Got (dCm zs i) e ({ zeroC with k := k, c := cc, q := cq, key := ca } : Cm) i4 0 from HG)
                have TY := hide TY.out.z
                clear HG hq
                go_upto_region 16 with (first
                  | ((with_reducible refine wpList_load_cm (y := ({ zeroC with k := k, c := cc, q := cq, key := ca } : Cm)) ?_ ?_ (cm_range TY.out.c) ?_); rfl; rfl)
                  | (go_at_call 39; (with_reducible refine (HR _).mono ?_); rintro x w5 ⟨rfl, hb⟩; have TY := hide (TY.out.quiet hb); clear hb))
                clear c2 f2
                go_wp2_with (first
                  | ((with_reducible refine wpList_load_cm (y := ({ zeroC with k := k, c := cc, q := cq, key := ca } : Cm)) ?_ ?_ (cm_range TY.out.c) ?_); rfl; rfl)
                  | ((with_reducible refine wpList_store_rw (vs := Cm.l ({ zeroC with k := k, c := cc, q := cq, key := ca } : Cm)) ?_ ?_ (one_cm _) ?_ ?_ TY.out.z ?_); exact cm_info; rfl; rfl; rfl; intro w7 hn hg; have HF := hide (And.intro hn (TY.out.k.put hg TY.out.lr)); clear hn hg))
                exact bodyPost_ret (results_cm (c := ({ zeroC with k := k, c := cc, q := cq, key := ca } : Cm)) Try.results64 rfl HF.out.1) rfl (readG_of (v := ({ zeroC with k := k, c := cc, q := cq, key := ca } : Cm)) rfl HF.out.2 HGG.out trivial)
            · have te2 : (e4 == 0) = false := by simpa using he
              have HGG := hide (show Got (dCm zs i) e ({ zeroC with k := k, c := cc, q := cq, key := ca } : Cm) i4 e4 from got_cond HG he)
              have TY := hide TY.out.z
              clear HG he
              go_upto_region 16 with (fail)
              clear c2 f2
              go_wp2_with (first
                | ((with_reducible refine wpList_load_cm (y := ({ zeroC with k := k, c := cc, q := cq, key := ca } : Cm)) ?_ ?_ (cm_range TY.out.c) ?_); rfl; rfl)
                | ((with_reducible refine wpList_store_rw (vs := Cm.l ({ zeroC with k := k, c := cc, q := cq, key := ca } : Cm)) ?_ ?_ (one_cm _) ?_ ?_ TY.out.z ?_); exact cm_info; rfl; rfl; rfl; intro w7 hn hg; have HF := hide (And.intro hn (TY.out.k.put hg TY.out.lr)); clear hn hg))
              exact bodyPost_ret (results_cm (c := ({ zeroC with k := k, c := cc, q := cq, key := ca } : Cm)) Try.results64 rfl HF.out.1) rfl (readG_of (v := ({ zeroC with k := k, c := cc, q := cq, key := ca } : Cm)) rfl HF.out.2 HGG.out trivial)
  · have te : (e1 == 0) = false := by simpa using he1
    have TY := hide (show Ty w B g zs i e w2 h { zeroC with k := k } i1 e1 from ⟨ZR.out, by unfold dCm0; exact G1.out.bnd (got_wrong he1 _ _)⟩)
    clear ZR G1
    go_upto_region 14 with (fail)
    clear c0 c2 f2 te
    have HR := fun w => rright_cc ({ zeroC with k := k } : Cm) w
    have HG := TY.out.g.chk rightC
    obtain ⟨c2, f2⟩ := TY.out.z.k.r.err2
    have te2 : (e1 == 0) = false := by simpa using he1
    have HGG := hide (show Got (dCm zs i) e ({ zeroC with k := k } : Cm) i1 e1 from got_cond HG he1)
    have TY := hide TY.out.z
    clear HG
    go_upto_region 16 with (fail)
    clear c2 f2
    go_wp2_with (first
      | ((with_reducible refine wpList_load_cm (y := ({ zeroC with k := k } : Cm)) ?_ ?_ (cm_range TY.out.c) ?_); rfl; rfl)
      | ((with_reducible refine wpList_store_rw (vs := Cm.l ({ zeroC with k := k } : Cm)) ?_ ?_ (one_cm _) ?_ ?_ TY.out.z ?_); exact cm_info; rfl; rfl; rfl; intro w7 hn hg; have HF := hide (And.intro hn (TY.out.k.put hg TY.out.lr)); clear hn hg))
    exact bodyPost_ret (results_cm (c := ({ zeroC with k := k } : Cm)) Try.results64 rfl HF.out.1) rfl (readG_of (v := ({ zeroC with k := k } : Cm)) rfl HF.out.2 HGG.out trivial)
end Go.Proofs.Ytlnpfaoeockoiaa
