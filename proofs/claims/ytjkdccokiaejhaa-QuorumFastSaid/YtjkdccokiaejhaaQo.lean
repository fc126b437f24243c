/- QuorumSlow walked, of any program whose Prepared answers as chapter 17 says. Conditions: what is asked of the program's calls. -/
import Derived.Test.YtjkdccokiaejhaaQj
import Derived.Test.YtjkdccokiaejhaaQn
namespace Go.Proofs.Ytjkdccokiaejhaa
set_option maxRecDepth 100000
open Go.RowKit
/-- The arguments' blocks. -/
structure Qa5 (W w : World) (who : List Bool) (cm : Cm) (a : List Int) (b1 b2 : Int) (L : List Cl) : Prop where
  low : Below W.heap.size W w
  who : Row w W.heap.size 63 (flC who)
  c : Row w (W.heap.size + 1) 32 (rowC cm)
  a : Row w (W.heap.size + 1 + 1) 26 (cA a)
  b : Row w (W.heap.size + 1 + 1 + 1) 30 #[.int .i64 b1, .int .i64 b2]
  o : Row w (W.heap.size + 1 + 1 + 1 + 1) 61 (arrC L)
section
variable {W w w' : World} {who : List Bool} {cm : Cm} {a : List Int} {b1 b2 : Int} {L : List Cl}
theorem Qa5.kept (h : Qa5 W w who cm a b1 b2 L) (hb : Below w.heap.size w w') : Qa5 W w' who cm a b1 b2 L := ⟨kept_trans h.low hb, h.who.below hb h.who.lt, h.c.below hb h.c.lt, h.a.below hb h.a.lt, h.b.below hb h.b.lt, h.o.below hb h.o.lt⟩
theorem Qa5.far (h : Qa5 W w who cm a b1 b2 L) {g : Nat} (hg : w.grownBy w' (some g)) (l : W.heap.size + 1 + 1 + 1 + 1 < g) : Qa5 W w' who cm a b1 b2 L :=
  ⟨below_own h.low hg (by omega), h.who.grown hg (by simp; omega), h.c.grown hg (by simp; omega), h.a.grown hg (by simp; omega), h.b.grown hg (by simp; omega), h.o.grown hg (by simp; omega)⟩
theorem Qa5.opt (h : Qa5 W w who cm a b1 b2 L) {o : Option Nat} (hg : w.grownBy w' o) (l : ∀ j, o = some j → W.heap.size + 1 + 1 + 1 + 1 < j) : Qa5 W w' who cm a b1 b2 L :=
  ⟨below_opt h.low hg (fun j e => by have := l j e; omega), h.who.grown hg (fun e => by have := l _ e.symm; omega), h.c.grown hg (fun e => by have := l _ e.symm; omega), h.a.grown hg (fun e => by have := l _ e.symm; omega), h.b.grown hg (fun e => by have := l _ e.symm; omega), h.o.grown hg (fun e => by have := l _ e.symm; omega)⟩
theorem Qa5.start (W : World) (who : List Bool) (cm : Cm) (a : List Int) (b1 b2 : Int) (L : List Cl) : Qa5 W (((((W.alloc (.cells (flC who) 63)).alloc (.cells (rowC cm) 32)).alloc (.cells (cA a) 26)).alloc (.cells #[.int .i64 b1, .int .i64 b2] 30)).alloc (.cells (arrC L) 61)) who cm a b1 b2 L := by
  have s1 : (W.alloc (.cells (flC who) 63)).heap.size = W.heap.size + 1 := by simp
  have s2 : ((W.alloc (.cells (flC who) 63)).alloc (.cells (rowC cm) 32)).heap.size = W.heap.size + 1 + 1 := by simp
  have s3 : (((W.alloc (.cells (flC who) 63)).alloc (.cells (rowC cm) 32)).alloc (.cells (cA a) 26)).heap.size = W.heap.size + 1 + 1 + 1 := by simp
  have s4 : ((((W.alloc (.cells (flC who) 63)).alloc (.cells (rowC cm) 32)).alloc (.cells (cA a) 26)).alloc (.cells #[.int .i64 b1, .int .i64 b2] 30)).heap.size = W.heap.size + 1 + 1 + 1 + 1 := by simp
  refine ⟨kept_alloc (kept_alloc (kept_alloc (kept_alloc (kept_alloc (kept_refl W) _) _) _) _) _, ((((Row.new W _ _).alloc _).alloc _).alloc _).alloc _, ?_, ?_, ?_, ?_⟩
  · rw [← s1]; exact (((Row.new _ _ _).alloc _).alloc _).alloc _
  · rw [← s2]; exact ((Row.new _ _ _).alloc _).alloc _
  · rw [← s3]; exact (Row.new _ _ _).alloc _
  · rw [← s4]; exact Row.new _ _ _
end
theorem fill_c5o {P : Program} {ops : Array Oper} {rest : List Oper} {d : Option Tmp} {ty T : TypeId} {ps : String} {af : Array Edge} {a : Act} {w : World} {Q : Exit → Act → World → Prop} {x0 x1 x2 x3 x4 : Operand} {u0 u1 u2 u3 u4 v : Value}
    (h0 : a.eval x0 = u0) (h1 : a.eval x1 = u1) (h2 : a.eval x2 = u2) (h3 : a.eval x3 = u3) (h4 : a.eval x4 = u4) (hf : (Instr.build T #[(0, u0), (1, u1), (2, u2), (3, u3), (4, u4)]).run P w = .ok v w)
    (h : wpList P ops Q rest (a.put d v) w) : wpList P ops Q ({ dst := d, op := .build T #[(0, x0), (1, x1), (2, x2), (3, x3), (4, x4)], type := ty, pos := ps, after := af, guard := none } :: rest) a w :=
  wpList_plain rfl fun K hK => by
    unfold Oper.wp execOp
    simp only [List.map_toArray, List.map_cons, List.map_nil, h0, h1, h2, h3, h4, Sem.run_bind, hf, Result.andThen_ok, Sem.run_pure]
    exact hK _ _ h
theorem build_2 {P : Program} {ops : Array Oper} {rest : List Oper} {d : Option Tmp} {ty T : TypeId} {ps : String} {af : Array Edge} {a : Act} {w : World} {Q : Exit → Act → World → Prop} {x0 x1 : Operand} {u0 u1 v : Value}
    (h0 : a.eval x0 = u0) (h1 : a.eval x1 = u1) (hf : (Instr.build T #[(0, u0), (1, u1)]).run P w = .ok v w)
    (h : wpList P ops Q rest (a.put d v) w) : wpList P ops Q ({ dst := d, op := .build T #[(0, x0), (1, x1)], type := ty, pos := ps, after := af, guard := none } :: rest) a w :=
  wpList_plain rfl fun K hK => by
    unfold Oper.wp execOp
    simp only [List.map_toArray, List.map_cons, List.map_nil, h0, h1, Sem.run_bind, hf, Result.andThen_ok, Sem.run_pure]
    exact hK _ _ h
theorem grown_size {w w' : World} {o : Option Nat} (hg : w.grownBy w' o) : w.heap.size ≤ w'.heap.size := by
  obtain ⟨_, _, _, h, _⟩ := hg
  exact h
theorem Row.cm_at {w : World} {g : Nat} {t : TypeId} {c : Cm} (R : Row w g t (rowC c)) : w.rangeAt g 0 c.l := R.mid (A := []) (ys := c.l) (B := []) rfl rfl
theorem Row.two_at {w : World} {g : Nat} {t : TypeId} {x y : Value} (R : Row w g t #[x, y]) : w.rangeAt g 0 [x, y] := R.mid (A := []) (ys := [x, y]) (B := []) rfl rfl
theorem zero_seven (w : World) : (zeroValue 61).run Try.prog w = .ok (.agg (arrC zero7C)) w := by kernel_rfl
set_option maxHeartbeats 16000000 in
theorem slow_walk {n fr : Int} {who : List Bool} {cm : Cm} {a : List Int} {b1 b2 : Int} {L : List Cl} (W : World) (hw : who.length = 7) (h8 : a.length = 8) (hL : Ces L) (HPP : PrepOk) (HPS : SlowOk) (HRU : RunsOk) :
    Calls Try.prog 8 #[.int .i64 n, .agg (flC who), .agg (rowC cm), .agg (cA a), .agg #[.int .i64 b1, .int .i64 b2], .agg (arrC L), .int .i64 fr] W fun e w' => e = .returned (.bool true) ∧ Below W.heap.size W w' := by
  obtain ⟨k, hk, hF⟩ := fit_any n
  have HF := hide hF
  have HP0 := hide (Qa5.start W who cm a b1 b2 L)
  have HKK := hide hk
  have hk7 : k ≤ 7 := by omega
  have hk3 : 3 ≤ k := by omega
  have HS := hide (fun w => HPS k w (by omega))
  obtain ⟨S, hS⟩ : ∃ S, k / 2 + 1 = S := ⟨_, rfl⟩
  rw [hS] at HS
  have HSV := hide hS
  have hS2 : S ≤ 4 := by omega
  have hS1 : 1 ≤ S := by omega
  have HRR := hide (fun w => HRU w)
  have HPR := hide (fun A m c l w => HPP k 0 A m c l w (by omega) (by omega))
  have HW7 := hide hw
  clear hF hk hS HPS HRU HPP hw
  go_enter Try.func8, Try.ntmps8
  go_upto_region 1 with (fail)
  generalize ((((W.alloc (.cells (flC who) 63)).alloc (.cells (rowC cm) 32)).alloc (.cells (cA a) 26)).alloc (.cells #[.int .i64 b1, .int .i64 b2] 30)).alloc (.cells (arrC L) 61) = w1 at HP0 ⊢
  have HP := HP0
  clear HP0
  go_upto_region 2 with (go_at_call 24; (with_reducible refine (HF.out _).mono ?_); rintro e w2 ⟨rfl, hb⟩; replace HP := hide (HP.out.kept hb); clear hb)
  have hz7 := fun w => zero_seven w
  go_upto_region 3 with (fail)
  clear hz7
  have HG := hide (Row.new w2 61 (arrC zero7C))
  have HGL := hide (show W.heap.size + 1 + 1 + 1 + 1 < w2.heap.size from HP.out.o.lt)
  replace HP := hide (HP.out.kept (kept_alloc (kept_refl w2) (.cells (arrC zero7C) 61)))
  generalize w2.alloc (.cells (arrC zero7C) 61) = w3 at HP HG ⊢
  generalize w2.heap.size = g at HG HGL ⊢
  clear HF
  go_upto_block 0 with (fail)
  go_cut [17, 18] from 30 to 59 (fun s17 _ wx => s17 = .int .i64 (cntL who k : Nat) ∧ Hid (Qa5 W wx who cm a b1 b2 L) ∧ Hid (Row wx g 61 (arrC (mixL who (b1, b2) cm a L k))))
  case first =>
    go_wp2
    go_loopw [17, 18] (fun mm ii wr => ∃ i : Nat, i ≤ k ∧ mm = .int .i64 (cntL who i : Nat) ∧ ii = .int .i64 i ∧ Hid (Qa5 W wr who cm a b1 b2 L) ∧ Hid (Row wr g 61 (arrC (mixL who (b1, b2) cm a L i)))) (fun _ ii _ => k - (intOf ii).toNat)
    case atStart => exact ⟨0, Nat.zero_le _, rfl, rfl, HP, hide (by rw [mix_zero]; exact HG.out)⟩
    case round =>
      clear HP HG
      obtain ⟨i, hi, rfl, rfl, HP, HG⟩ := hrel
      by_cases hik : i < k
      · have hiki : (i : Int) < (k : Int) := by omega
        have hi7 : i < 7 := by omega
        have hi7i : (i : Int) < 7 := by omega
        obtain ⟨x, hx⟩ : ∃ x, L[i]? = some x := ⟨_, List.getElem?_eq_getElem (by rw [hL.len]; exact hi7)⟩
        obtain ⟨bw, hbw⟩ : ∃ bw, who[i]? = some bw := ⟨_, List.getElem?_eq_getElem (by rw [HW7.out]; exact hi7)⟩
        have hx8 := hL.a8 x (List.mem_of_getElem? hx)
        have HQ := hide (show qxL who (b1, b2) cm a L i = if bw then ⟨2, (b1, b2), (b1, b2), cm, a, false⟩ else if decide (x.st = 3) || !ltP x.v (b1, b2) then zeroCl else x from by
          unfold qxL
          rw [List.getD_eq_getElem?_getD, List.getD_eq_getElem?_getD, hx, hbw]
          rfl)
        have HCC := hide (show cntL who (i + 1) = cntL who i + if bw then 1 else 0 from by rw [cnt_succ, List.getD_eq_getElem?_getD, hbw]; rfl)
        have hcn : cntL who i ≤ 7 := Nat.le_trans List.countP_le_length (by rw [List.length_range]; omega)
        have HMC := hide (mix_ces (who := who) (b := (b1, b2)) (c := cm) h8 hL i)
        have HBW := hide hbw
        have hcx := HP.out.o.ce_at hL hx
        generalize cntL who i = cn at HCC hcn ⊢
        clear hbw hx
        go_upto_region 8 with (first
          | ((with_reducible refine wpList_load_ce hx8 ?_ ?_ hcx ?_); rfl; rfl)
          | ((with_reducible refine wpList_store_new (vs := clC x) ?_ ?_ (cl_all _) ?_ ?_ ?_); (rw [clC_size hx8]; exact ce_info); (rw [clC_size hx8]; rfl); (first | rfl | (simp; done)); rfl))
        try dsimp only [Act.put]
        have HX := hide (CeAt.new hx8 wr 34)
        have HGX := hide (show W.heap.size + 1 + 1 + 1 + 1 < wr.heap.size ∧ g ≠ wr.heap.size from ⟨HP.out.o.lt, by have := HG.out.lt; omega⟩)
        replace HP := hide (HP.out.kept (kept_alloc (kept_refl wr) (.cells (clC x) 34)))
        replace HG := hide (HG.out.alloc (.cells (clC x) 34))
        generalize wr.alloc (.cells (clC x) 34) = w4 at HX HP HG ⊢
        generalize wr.heap.size = gx at HX HGX ⊢
        clear hcx
        have q0 := flC_at HP.out.who HBW.out
        cases bw
        · have HBL := hide (fun w => below_any x.v.1 x.v.2 b1 b2 w)
          rw [show ((x.v.1, x.v.2) : Int × Int) = x.v from rfl] at HBL
          by_cases h3 : x.st = 3
          · have h3b : (x.st == (3 : Int)) = true := by simpa using h3
            have H3 := hide h3
            clear h3
            replace HQ := hide (show qxL who (b1, b2) cm a L i = zeroCl from by rw [HQ.out]; simp [H3.out])
            have c0 := HX.out.st
            go_wp2_with (first
              | ((with_reducible refine wpList_load_bal ?_ ?_ HP.out.b.two_at ?_); rfl; rfl)
              | ((with_reducible refine wpList_load_bal ?_ ?_ HX.out.v ?_); rfl; rfl)
              | ((with_reducible refine wpList_load_cm ?_ ?_ HP.out.c.cm_at ?_); rfl; rfl)
              | ((with_reducible refine wpList_load_at h8 ?_ ?_ HP.out.a.at8 ?_); rfl; rfl)
              | ((with_reducible refine fill_c5o (v := .agg (clC ⟨2, (b1, b2), (b1, b2), cm, a, false⟩)) rfl rfl rfl rfl rfl ?_ ?_); exact fill_c5 h8 _)
              | ((with_reducible refine wpList_build_no ?_ (fill_cz _) ?_); rfl)
              | (go_at_call 33; (with_reducible refine (HBL.out _).mono ?_); rintro e5 w5 ⟨rfl, hb5⟩; replace HP := hide (HP.out.kept hb5); replace HG := hide (HG.out.below hb5 HG.out.lt); replace HX := hide (HX.out.kept hb5); clear hb5 c0; have c0 := HX.out.st)
              | ((with_reducible refine wpList_store_xw (y := zeroCl) rfl ?_ ?_ HX.out ?_); rfl; rfl; intro w6 hn hg; replace HP := hide (HP.out.far hg HGX.out.1); replace HG := hide (HG.out.grown hg (by simpa using HGX.out.2)); replace HX := hide hn; clear hn hg c0)
              | ((with_reducible refine wpList_load_ce (y := zeroCl) rfl ?_ ?_ HX.out.all ?_); rfl; rfl)
              | ((with_reducible refine wpList_store_7 (y := zeroCl) rfl ?_ ?_ HG.out HMC.out hi7 ?_); rfl; rfl; intro w7 hn hg; replace HP := hide (HP.out.far hg HGL.out); replace HG := hide hn; clear hn hg))
            go_roundw
            case rel => exact ⟨i + 1, by omega, by rw [HCC.out]; rfl, by go_num, HP, hide (by rw [← mix_set hi7, HQ.out]; exact HG.out)⟩
            case measure => simp [intOf]; omega
          · have h3b : (x.st == (3 : Int)) = false := by simpa using h3
            have H3 := hide h3
            clear h3
            cases hlt : ltP x.v (b1, b2)
            · rw [hlt] at HBL
              have HLT := hide hlt
              clear hlt
              replace HQ := hide (show qxL who (b1, b2) cm a L i = zeroCl from by rw [HQ.out]; simp [H3.out, HLT.out])
              have c0 := HX.out.st
              go_wp2_with (first
                | ((with_reducible refine wpList_load_bal ?_ ?_ HP.out.b.two_at ?_); rfl; rfl)
                | ((with_reducible refine wpList_load_bal ?_ ?_ HX.out.v ?_); rfl; rfl)
                | ((with_reducible refine wpList_load_cm ?_ ?_ HP.out.c.cm_at ?_); rfl; rfl)
                | ((with_reducible refine wpList_load_at h8 ?_ ?_ HP.out.a.at8 ?_); rfl; rfl)
                | ((with_reducible refine fill_c5o (v := .agg (clC ⟨2, (b1, b2), (b1, b2), cm, a, false⟩)) rfl rfl rfl rfl rfl ?_ ?_); exact fill_c5 h8 _)
                | ((with_reducible refine wpList_build_no ?_ (fill_cz _) ?_); rfl)
                | (go_at_call 33; (with_reducible refine (HBL.out _).mono ?_); rintro e5 w5 ⟨rfl, hb5⟩; replace HP := hide (HP.out.kept hb5); replace HG := hide (HG.out.below hb5 HG.out.lt); replace HX := hide (HX.out.kept hb5); clear hb5 c0; have c0 := HX.out.st)
                | ((with_reducible refine wpList_store_xw (y := zeroCl) rfl ?_ ?_ HX.out ?_); rfl; rfl; intro w6 hn hg; replace HP := hide (HP.out.far hg HGX.out.1); replace HG := hide (HG.out.grown hg (by simpa using HGX.out.2)); replace HX := hide hn; clear hn hg c0)
                | ((with_reducible refine wpList_load_ce (y := zeroCl) rfl ?_ ?_ HX.out.all ?_); rfl; rfl)
                | ((with_reducible refine wpList_store_7 (y := zeroCl) rfl ?_ ?_ HG.out HMC.out hi7 ?_); rfl; rfl; intro w7 hn hg; replace HP := hide (HP.out.far hg HGL.out); replace HG := hide hn; clear hn hg))
              go_roundw
              case rel => exact ⟨i + 1, by omega, by rw [HCC.out]; rfl, by go_num, HP, hide (by rw [← mix_set hi7, HQ.out]; exact HG.out)⟩
              case measure => simp [intOf]; omega
            · rw [hlt] at HBL
              have HLT := hide hlt
              clear hlt
              replace HQ := hide (show qxL who (b1, b2) cm a L i = x from by rw [HQ.out]; simp [H3.out, HLT.out])
              have c0 := HX.out.st
              go_wp2_with (first
                | ((with_reducible refine wpList_load_bal ?_ ?_ HP.out.b.two_at ?_); rfl; rfl)
                | ((with_reducible refine wpList_load_bal ?_ ?_ HX.out.v ?_); rfl; rfl)
                | ((with_reducible refine wpList_load_cm ?_ ?_ HP.out.c.cm_at ?_); rfl; rfl)
                | ((with_reducible refine wpList_load_at h8 ?_ ?_ HP.out.a.at8 ?_); rfl; rfl)
                | ((with_reducible refine fill_c5o (v := .agg (clC ⟨2, (b1, b2), (b1, b2), cm, a, false⟩)) rfl rfl rfl rfl rfl ?_ ?_); exact fill_c5 h8 _)
                | ((with_reducible refine wpList_build_no ?_ (fill_cz _) ?_); rfl)
                | (go_at_call 33; (with_reducible refine (HBL.out _).mono ?_); rintro e5 w5 ⟨rfl, hb5⟩; replace HP := hide (HP.out.kept hb5); replace HG := hide (HG.out.below hb5 HG.out.lt); replace HX := hide (HX.out.kept hb5); clear hb5 c0; have c0 := HX.out.st)
                | ((with_reducible refine wpList_store_xw (y := zeroCl) rfl ?_ ?_ HX.out ?_); rfl; rfl; intro w6 hn hg; replace HP := hide (HP.out.far hg HGX.out.1); replace HG := hide (HG.out.grown hg (by simpa using HGX.out.2)); replace HX := hide hn; clear hn hg c0)
                | ((with_reducible refine wpList_load_ce (y := x) hx8 ?_ ?_ HX.out.all ?_); rfl; rfl)
                | ((with_reducible refine wpList_store_7 (y := x) hx8 ?_ ?_ HG.out HMC.out hi7 ?_); rfl; rfl; intro w7 hn hg; replace HP := hide (HP.out.far hg HGL.out); replace HG := hide hn; clear hn hg))
              go_roundw
              case rel => exact ⟨i + 1, by omega, by rw [HCC.out]; rfl, by go_num, HP, hide (by rw [← mix_set hi7, HQ.out]; exact HG.out)⟩
              case measure => simp [intOf]; omega
        · have HBL := hide True.intro
          replace HQ := hide (show qxL who (b1, b2) cm a L i = ⟨2, (b1, b2), (b1, b2), cm, a, false⟩ from by rw [HQ.out]; rfl)
          have c0 := HX.out.st
          go_wp2_with (first
            | ((with_reducible refine wpList_load_bal ?_ ?_ HP.out.b.two_at ?_); rfl; rfl)
            | ((with_reducible refine wpList_load_bal ?_ ?_ HX.out.v ?_); rfl; rfl)
            | ((with_reducible refine wpList_load_cm ?_ ?_ HP.out.c.cm_at ?_); rfl; rfl)
            | ((with_reducible refine wpList_load_at h8 ?_ ?_ HP.out.a.at8 ?_); rfl; rfl)
            | ((with_reducible refine fill_c5o (v := .agg (clC ⟨2, (b1, b2), (b1, b2), cm, a, false⟩)) rfl rfl rfl rfl rfl ?_ ?_); exact fill_c5 h8 _)
            | ((with_reducible refine wpList_build_no ?_ (fill_cz _) ?_); rfl)
            | (go_at_call 33; (with_reducible refine (HBL.out _).mono ?_); rintro e5 w5 ⟨rfl, hb5⟩; replace HP := hide (HP.out.kept hb5); replace HG := hide (HG.out.below hb5 HG.out.lt); replace HX := hide (HX.out.kept hb5); clear hb5 c0; have c0 := HX.out.st)
            | ((with_reducible refine wpList_store_xw (y := ⟨2, (b1, b2), (b1, b2), cm, a, false⟩) h8 ?_ ?_ HX.out ?_); rfl; rfl; intro w6 hn hg; replace HP := hide (HP.out.far hg HGX.out.1); replace HG := hide (HG.out.grown hg (by simpa using HGX.out.2)); replace HX := hide hn; clear hn hg c0)
            | ((with_reducible refine wpList_load_ce (y := ⟨2, (b1, b2), (b1, b2), cm, a, false⟩) h8 ?_ ?_ HX.out.all ?_); rfl; rfl)
            | ((with_reducible refine wpList_store_7 (y := ⟨2, (b1, b2), (b1, b2), cm, a, false⟩) h8 ?_ ?_ HG.out HMC.out hi7 ?_); rfl; rfl; intro w7 hn hg; replace HP := hide (HP.out.far hg HGL.out); replace HG := hide hn; clear hn hg))
          go_roundw
          case rel => exact ⟨i + 1, by omega, by rw [HCC.out, if_pos rfl]; go_num, by go_num, HP, hide (by rw [← mix_set hi7, HQ.out]; exact HG.out)⟩
          case measure => simp [intOf]; omega
      · have hiki : ¬ (i : Int) < (k : Int) := by omega
        have hikk : i = k := by omega
        subst hikk
        go_wp2
        go_meet
        exact ⟨rfl, HP, HG⟩
  case rest =>
  clear HP HG
  obtain ⟨hs17, HP, HG⟩ := hcut
  subst hs17
  have hcn : cntL who k ≤ 7 := Nat.le_trans List.countP_le_length (by rw [List.length_range]; omega)
  have HCN := hide (show cntL who k = cntL who k from rfl)
  obtain ⟨cn, hcn0⟩ : ∃ cn, cntL who k = cn := ⟨_, rfl⟩
  rw [hcn0] at hcn ⊢
  replace HCN := hide (show cntL who k = cn from hcn0)
  clear hcn0
  by_cases hms : cn < S
  · have hmsi : (cn : Int) < (S : Int) := by omega
    go_wp2_with (first
      | (go_at_call 18; (with_reducible refine (HS.out _).mono ?_); rintro e w5 ⟨rfl, hb⟩; replace HP := hide (HP.out.kept hb); replace HG := hide (HG.out.below hb HG.out.lt);  clear hb)
      | (go_at_call 3; (with_reducible refine (HRR.out _).mono ?_); rintro e w6 ⟨rfl, hb⟩; replace HP := hide (HP.out.kept hb); clear hb))
    go_ret
    exact ⟨rfl, HP.out.low⟩
  · have hmsi : ¬ (cn : Int) < (S : Int) := by omega
    have hfb := withinI_bounds fr 0 ((k : Int) - 1) (by omega)
    obtain ⟨f, hf⟩ : ∃ f : Nat, withinI fr 0 ((k : Int) - 1) = (f : Int) := ⟨(withinI fr 0 ((k : Int) - 1)).toNat, by omega⟩
    rw [hf] at hfb
    have hfk : f < k := by omega
    have HWI := hide (fun w => within_any fr 0 ((k : Int) - 1) w (by omega) (by omega) (by omega))
    rw [hf] at HWI
    have HSAY := hide (slow_says (who := who) (b := (b1, b2)) (c := cm) (a := a) (L := L) HKK.out HW7.out hfk (by rw [HSV.out, HCN.out]; omega) 0)
    rw [HSV.out] at HSAY
    have HMC := hide (mix_ces (who := who) (b := (b1, b2)) (c := cm) h8 hL k)
    generalize mixL who (b1, b2) cm a L k = M at HG HSAY HMC
    have HMS := hide hms
    clear hf hfb hms
    have hk0 : ¬ (k : Int) = 0 := by omega
    go_wp2_with (first
      | (go_at_call 18; (with_reducible refine (HS.out _).mono ?_); rintro e w5 ⟨rfl, hb⟩; replace HP := hide (HP.out.kept hb); replace HG := hide (HG.out.below hb HG.out.lt);  clear hb))
    rw [decide_eq_false HMS.out]
    clear hmsi
    have HR := hide (Rsd.nil_ w5.heap.size w5)
    have HGL2 := hide (show W.heap.size + 1 + 1 + 1 + 1 < w5.heap.size from HP.out.o.lt)
    have HGT := hide HG.out.lt
    have HBE := hide (Nat.le_refl w5.heap.size)
    obtain ⟨bs, hbs⟩ : ∃ bs, w5.heap.size = bs := ⟨_, rfl⟩
    rw [hbs] at HR HGL2 HGT
    replace HBE := hide (show bs ≤ w5.heap.size from Nat.le_of_eq hbs.symm)
    clear hbs
    go_loopw [20, 21] (fun v ii wr => ∃ i : Nat, i ≤ S ∧ ii = .int .i64 i ∧ Hid (Rsd bs wr v (lstL M k f i)) ∧ Hid (Qa5 W wr who cm a b1 b2 L) ∧ Hid (Row wr g 61 (arrC M)) ∧ Hid (bs ≤ wr.heap.size)) (fun _ ii _ => S - (intOf ii).toNat)
    case atStart => exact ⟨0, Nat.zero_le _, rfl, HR, HP, HG, HBE⟩
    case round =>
      clear HR HP HG HBE
      rename_i v iv wr
      obtain ⟨i, hi, rfl, HR, HP, HG, HBE⟩ := hrel
      obtain ⟨A, cc, hv, _, _, _⟩ := HR.out.sds (lst_8 HMC.out k f i)
      rw [lst_len] at hv
      subst hv
      by_cases his : i < S
      · have hisi : (i : Int) < (S : Int) := by omega
        have hrk : (f + i) % k < k := Nat.mod_lt _ (by omega)
        have HLS := hide (lst_succ M k f i)
        have HL8 := hide (lst_len M k f i)
        obtain ⟨r, hr⟩ : ∃ r, (f + i) % k = r := ⟨_, rfl⟩
        rw [hr] at HLS hrk
        have hrm : ((f : Int) + (i : Int)).tmod (k : Int) = (r : Int) := by rw [← hr, Int.tmod_eq_emod_of_nonneg (by omega), ← Int.natCast_add]; rfl
        have hr7 : r < 7 := by omega
        have hr7i : (r : Int) < 7 := by omega
        have hr0i : (0 : Int) ≤ (r : Int) := by omega
        obtain ⟨y, hy⟩ : ∃ y, M[r]? = some y := ⟨_, List.getElem?_eq_getElem (by rw [HMC.out.len]; exact hr7)⟩
        have hy8 := HMC.out.a8 y (List.mem_of_getElem? hy)
        have hgd : M.getD r zeroCl = y := by rw [List.getD_eq_getElem?_getD, hy]; rfl
        rw [hgd] at HLS
        have HY := hide hy
        clear hr hy hgd
        go_upto_region 21 with (first
          | (go_at_call 18; (with_reducible refine (HS.out _).mono ?_); rintro e w5 ⟨rfl, hb⟩; replace HP := hide (HP.out.kept hb); replace HG := hide (HG.out.below hb HG.out.lt); replace HR := hide (HR.out.below hb); replace HBE := hide (show bs ≤ w5.heap.size from Nat.le_trans HBE.out hb.size); clear hb)
          | (go_at_call 32; (with_reducible refine (HWI.out _).mono ?_); rintro e w6 ⟨rfl, hw⟩; subst hw))
        have hcy := HG.out.ce_at HMC.out HY.out
        have hll : (lstL M k f i).length ≤ 1000 := by rw [HL8.out]; omega
        go_wp2_with (first
          | ((with_reducible refine wpList_load_ce (y := y) hy8 ?_ ?_ hcy ?_); rfl; rfl)
          | ((with_reducible refine build_2 (v := .agg (sdl ((r : Int), y)).toArray) rfl rfl ?_ ?_); exact fill_sd hy8 _)
          | ((with_reducible refine wpList_lit_sd (e := ((r : Int), y)) hy8 ?_ ?_); rfl; have HE := hide (Row.new w5 36 (sdl ((r : Int), y)).toArray); replace HP := hide (HP.out.kept (kept_alloc (kept_refl w5) (.cells (sdl ((r : Int), y)).toArray 36))); replace HG := hide (HG.out.alloc (.cells (sdl ((r : Int), y)).toArray 36)); replace HR := hide (HR.out.below (kept_alloc (kept_refl w5) (.cells (sdl ((r : Int), y)).toArray 36))); have HBF := hide (show bs ≤ (w5.alloc (.cells (sdl ((r : Int), y)).toArray 36)).heap.size from by simp; have := HBE.out; omega); clear hcy; generalize w5.alloc (.cells (sdl ((r : Int), y)).toArray 36) = w6 at HE HP HG HR HBF ⊢; generalize w5.heap.size = ge at HE ⊢)
          | ((with_reducible refine wpList_append_sd (e := ((r : Int), y)) hy8 ?_ ?_ HR.out HE.out hll HBF.out ?_); rfl; rfl; intro v7 w7 hv7 hg7; replace HP := hide (HP.out.opt hg7 (fun j e => by have h1 := (HR.out.lt j e).1; have h2 := HGL2.out; omega)); replace HG := hide (HG.out.grown hg7 (fun e => by have h1 := (HR.out.lt g e.symm).1; have h2 := HGT.out; omega)); have HBH := hide (show bs ≤ w7.heap.size from Nat.le_trans HBF.out (grown_size hg7)); replace HR := hide hv7; clear hv7 hg7))
        go_roundw
        case rel => exact ⟨i + 1, by omega, by go_num, hide (by rw [HLS.out]; exact HR.out), HP, HG, HBH⟩
        case measure => simp [intOf]; omega
      · have hisi : ¬ (i : Int) < (S : Int) := by omega
        have hiS : i = S := by omega
        subst hiS
        have hM8 := lst_8 HMC.out k f i
        obtain ⟨A', cc', hv, hsd, hnn, hcc⟩ := HR.out.sds hM8
        rw [lst_len] at hv hcc
        injection hv with h1 _ h3
        subst h1 h3
        have HSD := hide hsd
        have HLL := hide (lst_len M k f i)
        have HPC := hide (fun w (h : Sds w A (lstL M k f i)) => HPR.out A i cc (lstL M k f i) w HLL.out h (by omega) hcc hnn)
        rw [HSAY.out] at HPC
        have hec := fun w => eql_cmd cm.k cm.c cm.q cm.key cm.en cm.old cm.val cm.k cm.c cm.q cm.key cm.en cm.old cm.val w
        rw [show sameC ⟨cm.k, cm.c, cm.q, cm.key, cm.en, cm.old, cm.val⟩ ⟨cm.k, cm.c, cm.q, cm.key, cm.en, cm.old, cm.val⟩ = true from sameC_iff.2 rfl] at hec
        have hea := fun w => eql_at h8 h8 w
        rw [decide_eq_true rfl] at hea
        have HEC := hide hec
        have HEA := hide hea
        clear hec hea hsd HR
        go_upto_region 23 with (first
          | (go_at_call 18; (with_reducible refine (HS.out _).mono ?_); rintro e w5 ⟨rfl, hb⟩; replace HP := hide (HP.out.kept hb); replace HG := hide (HG.out.below hb HG.out.lt); replace HSD := hide (HSD.out.below hb); clear hb)
          | (go_at_call 28; (with_reducible refine (HPC.out _ HSD.out).mono ?_); rintro e w7 ⟨rfl, hb⟩; replace HP := hide (HP.out.kept hb); have HN := hide (show Pq w7 ((w7.alloc (.cells #[.int .i64 0, .int .i64 0, .int .i64 0, .string ⟨#[]⟩, .string ⟨#[]⟩, .string ⟨#[]⟩, .string ⟨#[]⟩] 32)).alloc (.cells #[.int .i64 0, .int .i64 0, .int .i64 0, .int .i64 0, .int .i64 0, .int .i64 0, .int .i64 0, .int .i64 0] 26)) zeroC zero8 from Pq.start w7); clear hb)
          | ((with_reducible refine wpList_store_cm (y := cm) (z := zeroC) ?_ ?_ HN.out.c ?_); rfl; rfl; intro w8 hn hg; replace HN := hide (HN.out.putc hn hg); clear hn hg)
          | ((with_reducible refine wpList_store_at (y := a) (z := zero8) h8 ?_ ?_ HN.out.a rfl ?_); rfl; rfl; intro w9 hn hg; replace HN := hide (HN.out.puta hn hg); clear hn hg))
        replace HP := hide (HP.out.kept HN.out.low)
        have hec := HEC.out
        have hea := HEA.out
        go_wp2_with (first
          | ((with_reducible refine wpList_load_cm ?_ ?_ HN.out.c.cm_at ?_); rfl; rfl)
          | ((with_reducible refine wpList_load_cm ?_ ?_ HP.out.c.cm_at ?_); rfl; rfl)
          | ((with_reducible refine wpList_load_at h8 ?_ ?_ HN.out.a.at8 ?_); rfl; rfl)
          | ((with_reducible refine wpList_load_at h8 ?_ ?_ HP.out.a.at8 ?_); rfl; rfl)
          | (go_at_call 3; (with_reducible refine (HRR.out _).mono ?_); rintro e wz ⟨rfl, hb⟩; replace HP := hide (HP.out.kept hb); clear hb))
        go_ret
        exact ⟨rfl, HP.out.low⟩
end Go.Proofs.Ytjkdccokiaejhaa
/- QuorumFast, without a program: what the replicas have behind a proposal, and what any slow quorum without the owner comes to. A list of attributes put together by append. Conditions: attributes are eight numbers. -/
namespace Go.Proofs.Ytjkdccokiaejhaa
set_option maxRecDepth 100000
open Go.RowKit
/-- What the i-th from the owner on has. -/
def fcL (left : Nat) (nothing : Bool) (c : Cm) (a other : List Int) (i : Nat) : Cl := if i = left then (if nothing then zeroCl else ⟨1, (0, 0), (0, 0), c, other, false⟩) else ⟨1, (0, 0), (0, 0), c, a, true⟩
def fmL (k o left : Nat) (nothing : Bool) (c : Cm) (a other : List Int) : Nat → List Cl
  | 0 => zero7C
  | j + 1 => (fmL k o left nothing c a other j).set ((o + (j + 1)) % k) (fcL left nothing c a other (j + 1))
def cntF (left j : Nat) : Nat := if j < left then j else j - 1
def flsL (M : List Cl) (k o x m : Nat) : List (Int × Cl) := (List.range m).map fun i => ((((o + 1 + (x + i) % (k - 1)) % k : Nat) : Int), M.getD ((o + 1 + (x + i) % (k - 1)) % k) zeroCl)
section
variable {k o left : Nat} {nothing : Bool} {c : Cm} {a other : List Int}
theorem fc_8 (h8 : a.length = 8) (ho8 : other.length = 8) (i : Nat) : (fcL left nothing c a other i).a.length = 8 := by
  unfold fcL
  split
  · split
    · rfl
    · exact ho8
  · exact h8
theorem fm_ces (h8 : a.length = 8) (ho8 : other.length = 8) : ∀ j, Ces (fmL k o left nothing c a other j)
  | 0 => Ces.zero
  | j + 1 => (fm_ces h8 ho8 j).set (fc_8 h8 ho8 _) _
theorem mod_apart (hk : k = 3 ∨ k = 5 ∨ k = 7) (ho : o < k) {i j : Nat} (hi : i < k) (hj : j < k) (hne : i ≠ j) : (o + i) % k ≠ (o + j) % k := by
  rcases hk with rfl | rfl | rfl <;> omega
theorem fm_get (hk : k = 3 ∨ k = 5 ∨ k = 7) (ho : o < k) (h8 : a.length = 8) (ho8 : other.length = 8) {i : Nat} (h0 : 0 < i) : ∀ {j : Nat}, i ≤ j → j < k → (fmL k o left nothing c a other j)[(o + i) % k]? = some (fcL left nothing c a other i)
  | 0, h, _ => absurd h (by omega)
  | j + 1, h, hj => by
    unfold fmL
    have hl : (fmL k o left nothing c a other j).length = 7 := (fm_ces h8 ho8 j).len
    have hm : (o + i) % k < 7 := Nat.lt_of_lt_of_le (Nat.mod_lt _ (by omega)) (by omega)
    rcases Nat.eq_or_lt_of_le h with rfl | h
    · rw [List.getElem?_set_self (by rw [hl]; exact hm)]
    · rw [List.getElem?_set_ne (mod_apart hk ho (by omega) (by omega) (by omega))]
      exact fm_get hk ho h8 ho8 h0 (by omega) (by omega)
theorem fls_succ (M : List Cl) (k o x m : Nat) : flsL M k o x (m + 1) = flsL M k o x m ++ [((((o + 1 + (x + m) % (k - 1)) % k : Nat) : Int), M.getD ((o + 1 + (x + m) % (k - 1)) % k) zeroCl)] := by
  unfold flsL
  rw [List.range_succ, List.map_append]
  rfl
theorem fls_len (M : List Cl) (k o x m : Nat) : (flsL M k o x m).length = m := by unfold flsL; rw [List.length_map, List.length_range]
theorem fls_8 {M : List Cl} (hM : Ces M) (k o x m : Nat) : ∀ e, e ∈ flsL M k o x m → e.2.a.length = 8 := fun e he => by
  unfold flsL at he
  obtain ⟨i, _, rfl⟩ := List.mem_map.1 he
  show (M.getD _ zeroCl).a.length = 8
  rw [List.getD_eq_getElem?_getD]
  cases hj : M[(o + 1 + (x + i) % (k - 1)) % k]? with
  | none => rfl
  | some y => exact hM.a8 y (List.mem_of_getElem? hj)
/-- Any slow quorum without the owner comes to the owner's command and attributes. -/
theorem fast_says (hk : k = 3 ∨ k = 5 ∨ k = 7) (ho : o < k) (h8 : a.length = 8) (ho8 : other.length = 8) (h0 : 0 < left) (hl : left < k) (x : Nat) : prepL k o (flsL (fmL k o left nothing c a other (k - 1)) k o x (k / 2 + 1)) = (2, c, a) := by
  obtain ⟨hno, hcn⟩ := fast_meets hk (x := x) ho h0 hl
  have at_ : ∀ i, (fmL k o left nothing c a other (k - 1)).getD ((o + 1 + (x + i) % (k - 1)) % k) zeroCl = fcL left nothing c a other (1 + (x + i) % (k - 1)) := fun i => by
    have hlt : (x + i) % (k - 1) < k - 1 := Nat.mod_lt _ (by omega)
    rw [List.getD_eq_getElem?_getD, Nat.add_assoc, fm_get hk ho h8 ho8 (by omega) (by omega) (by omega)]
    rfl
  refine prep_fast (by omega) (by rw [fls_len]; exact Nat.le_refl _) (fun e he => ?_) (fun e he => ?_) (fun e he hst hs => ?_) ?_
  · unfold flsL at he
    obtain ⟨i, hi, rfl⟩ := List.mem_map.1 he
    have := hno i (List.mem_range.1 hi)
    simp only
    omega
  · unfold flsL at he
    obtain ⟨i, _, rfl⟩ := List.mem_map.1 he
    simp only [at_]
    unfold fcL
    split
    · split
      · exact .inr rfl
      · exact .inl rfl
    · exact .inl rfl
  · unfold flsL at he
    obtain ⟨i, _, rfl⟩ := List.mem_map.1 he
    simp only [at_] at hst hs ⊢
    unfold fcL at hst hs ⊢
    split at hs
    · split at hs
      · cases hs
      · cases hs
    · rename_i hne
      rw [if_neg hne]
      exact ⟨rfl, rfl⟩
  · unfold sameL flsL
    rw [← List.countP_eq_length_filter, List.countP_map]
    refine Nat.le_trans hcn (List.countP_mono_left fun i hi hp => ?_)
    have hi' := List.mem_range.1 hi
    have h1 := hno i hi'
    have hne : 1 + (x + i) % (k - 1) ≠ left := fun e => by
      rw [Nat.add_assoc, e] at hp
      simp at hp
    simp only [Function.comp, at_]
    unfold fcL
    rw [if_neg hne]
    simp only [Bool.and_eq_true, decide_eq_true_eq]
    exact ⟨trivial, fun e => h1 (Int.ofNat.inj e), trivial⟩
end
/-- An own row of attributes. -/
def Rat (base : Nat) (w : World) (v : Value) (l : List (List Int)) : Prop := Rw base 26 8 w v (atV l)
theorem Rat.nil_ (base : Nat) (w : World) : Rat base w (.slice none 0 0) [] := ⟨rfl, .inl ⟨rfl, rfl⟩⟩
theorem Rat.below {base : Nat} {w w' : World} {v : Value} {l : List (List Int)} (h : Rat base w v l) (hb : Below w.heap.size w w') : Rat base w' v l := (Kq.of_below (o := fun _ => False) hb).own h (fun _ _ e => e)
theorem Rat.lt {base : Nat} {w : World} {v : Value} {l : List (List Int)} (h : Rat base w v l) : ∀ j, v.ownBlock = some j → base ≤ j ∧ j < w.heap.size := Rw.lt h
theorem Rat.far {base : Nat} {w w' : World} {v : Value} {l : List (List Int)} {g : Nat} (h : Rat base w v l) (hg : w.grownBy w' (some g)) (hl : g < base) : Rat base w' v l := Rw.far h hg (fun e => by have := (h.lt g e.symm).1; omega)
theorem Rat.its {base : Nat} {w : World} {v : Value} {l : List (List Int)} (h : Rat base w v l) (a8 : All 8 l) : ∃ A c, v = .slice A l.length c ∧ Its 8 w A l ∧ (A = none → c = 0) ∧ l.length ≤ c := by
  have h1 := h
  unfold Rat Rw at h1
  rw [atV_len] at h1
  obtain ⟨A, c, rfl, hn, hc, _⟩ := els_own_form h1
  exact ⟨A, c, rfl, els_its (els_own h1 (atV_all a8) (by decide)).1 a8, hn, hc⟩
section
variable {ops : Array Oper} {rest : List Oper} {d : Option Tmp} {ty : TypeId} {ps : String} {af : Array Edge} {a : Act} {w : World} {Q : Exit → Act → World → Prop} {u x : Operand} {base : Nat} {v : Value} {l : List (List Int)} {e : List Int}
theorem wpList_append_at {g : Nat} (he : e.length = 8) (hu : a.eval u = v) (hx : a.eval x = .slice (some ⟨g, 0, none⟩) 1 1) (R : Rat base w v l) (G : Row w g 26 (cA e)) (hl : l.length ≤ 1000) (hb : base ≤ w.heap.size)
    (h : ∀ v' w', Rat base w' v' (l ++ [e]) → w.grownBy w' v.ownBlock → wpList Try.prog ops Q rest (a.put d v') w') :
    wpList Try.prog ops Q ({ dst := d, op := .call { callee := .builtin .append, args := #[u, x], argTypes := #[45, 45] }, type := ty, pos := ps, after := af, guard := none } :: rest) a w :=
  wpList_plain rfl fun K hK => by
    have hE : Els 8 w (some ⟨g, 0, none⟩) (atV [e]) := els_one8 G he
    have hR := R
    unfold Rat Rw at hR
    obtain ⟨v', w', hr, r1, r2, _⟩ := run_append_els (P := Try.prog) (w := w) base 45 ty 26 _ _ 64 rfl rfl rfl rfl rfl (by decide) rfl v (atV l).length (atV l) hR (some ⟨g, 0, none⟩) 1 1 (atV [e])
      (atV_all fun y hy => by rw [List.mem_singleton.1 hy]; exact he) rfl (fun h => by cases h) hE (by rw [atV_len]; omega) (by rw [atV_len]; omega) hb
    unfold Oper.wp execOp
    simp only [resolve, invoke, builtin, Sem.run_bind, Sem.run_pure, Result.andThen_ok, List.map_toArray, List.map_cons, List.map_nil, hu, hx, hr]
    refine hK _ _ (h v' w' ?_ r2)
    unfold Rat Rw
    rw [atV_append, List.length_append]
    exact r1
theorem fill_4 {P : Program} {T : TypeId} {i0 i1 i2 i3 : Nat} {x0 x1 x2 x3 : Operand} {u0 u1 u2 u3 v : Value} (h0 : a.eval x0 = u0) (h1 : a.eval x1 = u1) (h2 : a.eval x2 = u2) (h3 : a.eval x3 = u3) (hf : (Instr.build T #[(i0, u0), (i1, u1), (i2, u2), (i3, u3)]).run P w = .ok v w) (h : wpList P ops Q rest (a.put d v) w) :
    wpList P ops Q ({ dst := d, op := .build T #[(i0, x0), (i1, x1), (i2, x2), (i3, x3)], type := ty, pos := ps, after := af, guard := none } :: rest) a w :=
  wpList_plain rfl fun K hK => by
    unfold Oper.wp execOp
    simp only [List.map_toArray, List.map_cons, List.map_nil, h0, h1, h2, h3, Sem.run_bind, hf, Result.andThen_ok, Sem.run_pure]
    exact hK _ _ h
end
theorem fill_same {c : Cm} {a : List Int} (h : a.length = 8) (w : World) : (Instr.build 34 #[(0, .int .i64 1), (3, .agg (rowC c)), (4, .agg (cA a)), (5, .bool true)]).run Try.prog w = .ok (.agg (clC ⟨1, (0, 0), (0, 0), c, a, true⟩)) w := by
  obtain ⟨a0, a1, a2, a3, a4, a5, a6, a7, rfl⟩ := len8 h
  kernel_rfl
theorem fill_oth {c : Cm} {a : List Int} (h : a.length = 8) (w : World) : (Instr.build 34 #[(0, .int .i64 1), (3, .agg (rowC c)), (4, .agg (cA a))]).run Try.prog w = .ok (.agg (clC ⟨1, (0, 0), (0, 0), c, a, false⟩)) w := by
  obtain ⟨a0, a1, a2, a3, a4, a5, a6, a7, rfl⟩ := len8 h
  kernel_rfl
end Go.Proofs.Ytjkdccokiaejhaa
