/- Proved: the law LogHolds returns true for any calls. No condition. -/
import Derived.Test.YtiaegloipnhhdaaWa
import Derived.Test.YtiaegloipnhhdaaWs
import Derived.Test.YtiaegloipnhhdaaWl
namespace Go.Proofs.Ytiaegloipnhhdaa.logHolds
open Go.ChangeShapes Go.WideShapes Go.ChangeAt Go.RowKit
open Go.Maps
/-- While a round goes on: the log, the call's block, what stood, what stands. -/
structure Hr (W w : World) (g b ba bw : Nat) (x : Lw) (a : Ga) (y : Cl) : Prop where
  rl : Rl W w g b x
  ra : GaAt w ba a
  rw : CeAt w bw 37 y
structure Hs (W w : World) (g b ba bw bn : Nat) (x : Lw) (a : Ga) (y z : Cl) : Prop where
  rl : Rl W w g b x
  ra : GaAt w ba a
  rw : CeAt w bw 37 y
  rn : CeAt w bn 37 z
section
variable {W w w' : World} {g b ba bw bn : Nat} {x x' : Lw} {a : Ga} {y z : Cl}
theorem Hr.kept (h : Hr W w g b ba bw x a y) (hb : Below w.heap.size w w') : Hr W w' g b ba bw x a y := ⟨h.rl.below hb, h.ra.kept hb, h.rw.kept hb⟩
theorem Hr.set (h : Hr W w g b ba bw x a y) (hp : Pg w' g b x') (k : Kq (fun k => k = b) w w') : Hr W w' g b ba bw x' a y := ⟨h.rl.set hp k, h.ra.set h.rl.pg k, h.rw.set h.rl.pg k⟩
theorem Hs.kept (h : Hs W w g b ba bw bn x a y z) (hb : Below w.heap.size w w') : Hs W w' g b ba bw bn x a y z := ⟨h.rl.below hb, h.ra.kept hb, h.rw.kept hb, h.rn.kept hb⟩
end
theorem same_cl (c : Cl) : sameCl c c = true := sameCl_iff.2 rfl
/-- What the law's questions come to. -/
structure Ans (M Q Q2 : Bool) (c y z : Cl) : Prop where
  no : M = false → z = y ∧ Q2 = Q
  yes : M = true → z = c ∧ Q2 = true
  holds : Q = true → ltP z.p y.p = false ∧ ltP z.v y.v = false ∧ (y.st = 3 → z.st = 3 ∧ z.c = y.c ∧ z.a = y.a)
theorem ans_of {x : Lw} (h : Kl x) (i : Int × Int) (c : Cl) : Ans (maySet x i c) (cellL x.k i).isSome (cellL (setL x i c).k i).isSome c ((cellL x.k i).getD zeroCl) ((cellL (setL x i c).k i).getD zeroCl) := by
  cases hm : maySet x i c
  · rw [set_no' hm]
    refine ⟨fun _ => ⟨rfl, rfl⟩, (fun h => by cases h), fun _ => ⟨ltP_irrefl _, ltP_irrefl _, fun h => ⟨h, rfl, rfl⟩⟩⟩
  · have e : cellL (setL x i c).k i = some c := by rw [cell_set h, hm]; simp
    rw [e]
    refine ⟨(fun h => by cases h), fun _ => ⟨rfl, rfl⟩, fun hq => ?_⟩
    cases ho : cellL x.k i with
    | none => rw [ho] at hq; cases hq
    | some was =>
      obtain ⟨h1, h2, h3⟩ := set_holds ((may_parts hm).2.2.2 was ho)
      exact ⟨h2, h3, h1⟩
set_option maxRecDepth 100000 in
set_option maxHeartbeats 32000000 in
theorem walk (A : Option Addr) (n c : Nat) (l : List Ga) (W : World) (hs : GasIn W A n c l) :
    Calls Try.prog 5 #[.slice A n c] W fun e w' => e = .returned (.bool true) ∧ Below W.heap.size W w' := by
  have HS := hide hs
  have hn : n ≤ 9223372036854775807 := by have h1 := hs.le; have h2 := hs.room; omega
  have HN := hide hs.len
  have HNW := hide (fun w => new1 w)
  clear hs
  go_enter Try.func5, Try.ntmps5
  go_upto_region 4 with (first
    | (go_at_call 7; (with_reducible refine (HNW.out _).mono ?_); rintro e w1 ⟨g, b, rfl, hr⟩; have HR := hide hr; clear hr))
  go_wp2
  go_loopw [4] (fun i wr => ∃ (k : Nat) (x : Lw), k ≤ n ∧ k ≤ 60 ∧ i = .int .i64 k ∧ Hid (x.k.length ≤ k) ∧ Hid (Rl W wr g b x)) (fun i _ => 60 - (intOf i).toNat)
  case atStart => exact ⟨0, zeroLw, by omega, by omega, rfl, hide (Nat.le_refl _), HR⟩
  case round =>
    clear HR
    obtain ⟨k, x, hk, hk60, rfl, HL, HR⟩ := hrel
    by_cases hlt : k < n ∧ k < 60
    · obtain ⟨h1, h2⟩ := hlt
      have h1i : (k : Int) < (n : Int) := by omega
      have h2i : (k : Int) < 60 := by omega
      have hkl : k < l.length := by rw [HN.out]; exact h1
      obtain ⟨a, ha⟩ : ∃ a, l[k]? = some a := ⟨_, List.getElem?_eq_getElem hkl⟩
      have hok := HS.out.ok a (List.mem_of_getElem? ha)
      obtain ⟨gl, off, hA, hC⟩ := HS.out.at_ HR.out.low ha
      subst hA
      have HC := hide hC
      have hok31 := Ga.len hok
      have HOK := hide hok
      have HLI := hide (fun w => light_any a.c hok.c w)
      have h8 := hok.c.a
      have hxl : x.k.length ≤ 1000000000 := by have := HL.out; omega
      clear ha hkl hC hok
      go_upto_region 8 with (first
        | ((with_reducible refine wpList_load_g ?_ ?_ HC.out ga_under rfl (by rw [hok31]; exact ga_info) ?_); rfl; rfl)
        | ((with_reducible refine wpList_store_new (vs := gaC a) ?_ ?_ (ga_all _) ?_ ?_ ?_); (rw [gaC_size HOK.out]; exact ga_info); (rw [gaC_size HOK.out]; rfl); (first | rfl | (simp; done)); rfl))
      try dsimp only [Act.put]
      have HAT := hide (GaAt.new HOK.out wr)
      replace HR := hide (HR.out.below (kept_alloc (kept_refl wr) (.cells (gaC a) 51)))
      generalize wr.alloc (.cells (gaC a) 51) = w2 at HAT HR ⊢
      generalize wr.heap.size = ba at HAT ⊢
      clear HC hok31
      cases hq : lightB a.c
      · simp only [hq] at HLI
        clear hq
        go_wp2_with (first
          | ((with_reducible refine wpList_load_ce h8 ?_ ?_ HAT.out.cell ?_); rfl; rfl)
          | (go_at_call 16; (with_reducible refine (HLI.out _).mono ?_); rintro e w3 ⟨rfl, hb⟩; replace HR := hide (HR.out.below hb); clear hb))
        go_roundw
        case rel => exact ⟨k + 1, x, by omega, by omega, by go_num, hide (by have := HL.out; omega), HR⟩
        case measure => simp [intOf]; omega
      · simp only [hq] at HLI
        clear hq
        have HKL := hide HR.out.pg.kl
        have HX8 := hide (opt_a8 HR.out.pg.kl (a.i.1, a.i.2))
        have HZ8 := hide (opt_a8 (HR.out.pg.kl.set (i := (a.i.1, a.i.2)) h8) (a.i.1, a.i.2))
        have HAN := hide (ans_of HR.out.pg.kl (a.i.1, a.i.2) a.c)
        have HC1 := hide (fun w (h : Pg w g b x) => pcell_any h a.i.1 a.i.2 HOK.out.i)
        have HST := hide (fun w (h : Pg w g b x) => pset_any h h8 hxl a.i.1 a.i.2)
        have HC2 := hide (fun w (h : Pg w g b (setL x (a.i.1, a.i.2) a.c)) => pcell_any h a.i.1 a.i.2 HOK.out.i)
        have HL2 := hide (show (setL x (a.i.1, a.i.2) a.c).k.length ≤ k + 1 from Nat.le_trans (set_len _ _ _) (by have := HL.out; omega))
        unfold cellV at HC1 HC2
        unfold SetP at HST
        generalize setL x (a.i.1, a.i.2) a.c = x' at HAN HST HC2 HL2 HZ8
        generalize cellL x.k (a.i.1, a.i.2) = o1 at HAN HC1 HX8
        generalize cellL x'.k (a.i.1, a.i.2) = o2 at HAN HC2 HZ8
        generalize maySet x (a.i.1, a.i.2) a.c = M at HAN HST
        have hy8 := HX8.out
        have hz8 := HZ8.out
        generalize o1.getD zeroCl = y at HAN HC1 hy8
        generalize o2.getD zeroCl = z at HAN HC2 hz8
        generalize o1.isSome = Q at HAN HC1
        generalize o2.isSome = Q2 at HAN HC2
        clear HX8 HZ8 HKL HL hxl
        go_upto_region 9 with (first
          | ((with_reducible refine wpList_load_ce h8 ?_ ?_ HAT.out.cell ?_); rfl; rfl)
          | (go_at_call 16; (with_reducible refine (HLI.out _).mono ?_); rintro e w3 ⟨rfl, hb⟩; replace HR := hide (HR.out.below hb); replace HAT := hide (HAT.out.kept hb); clear hb))
        have c1 := HAT.out.i0
        have c2 := HAT.out.i1
        go_upto_region 10 with (first
          | (go_at_call 18; (with_reducible refine (HC1.out _ HR.out.pg).mono ?_); rintro e w4 ⟨rfl, hb⟩; replace HR := hide (HR.out.below hb); replace HAT := hide (HAT.out.kept hb); clear hb c1 c2)
          | ((with_reducible refine wpList_store_new (vs := clC y) ?_ ?_ (cl_all _) ?_ ?_ ?_); exact ce_size hy8; (rw [clC_size hy8]; rfl); (first | rfl | (simp; done)); rfl))
        try dsimp only [Act.put]
        have HH := hide (show Hr W (w4.alloc (.cells (clC y) 37)) g b ba w4.heap.size x a y from ⟨HR.out.below (kept_alloc (kept_refl w4) _), HAT.out.kept (kept_alloc (kept_refl w4) _), CeAt.new hy8 w4 _⟩)
        generalize w4.alloc (.cells (clC y) 37) = w5 at HH ⊢
        generalize w4.heap.size = bw at HH ⊢
        clear HR HAT HC1 HLI
        have c1 := HH.out.ra.i0
        have c2 := HH.out.ra.i1
        go_upto_region 11 with (first
          | ((with_reducible refine wpList_load_ce h8 ?_ ?_ HH.out.ra.cell ?_); rfl; rfl)
          | (go_at_call 8; (with_reducible refine (HST.out _ HH.out.rl.pg).mono ?_); rintro e w6 ⟨rfl, hp, hk⟩; replace HH := hide (HH.out.set hp hk); clear hp hk c1 c2))
        clear HST
        have c1 := HH.out.ra.i0
        have c2 := HH.out.ra.i1
        go_upto_region 12 with (first
          | (go_at_call 18; (with_reducible refine (HC2.out _ HH.out.rl.pg).mono ?_); rintro e w7 ⟨rfl, hb⟩; replace HH := hide (HH.out.kept hb); clear hb c1 c2)
          | ((with_reducible refine wpList_store_new (vs := clC z) ?_ ?_ (cl_all _) ?_ ?_ ?_); exact ce_size hz8; (rw [clC_size hz8]; rfl); (first | rfl | (simp; done)); rfl))
        try dsimp only [Act.put]
        have HE := hide (show Hs W (w7.alloc (.cells (clC z) 37)) g b ba bw w7.heap.size x' a y z from ⟨HH.out.rl.below (kept_alloc (kept_refl w7) _), HH.out.ra.kept (kept_alloc (kept_refl w7) _), HH.out.rw.kept (kept_alloc (kept_refl w7) _), CeAt.new hz8 w7 _⟩)
        generalize w7.alloc (.cells (clC z) 37) = w8 at HE ⊢
        generalize w7.heap.size = bn at HE ⊢
        clear HH HC2
        cases M
        · obtain ⟨hz, hq⟩ := HAN.out.no rfl
          subst hz; subst hq
          have HHH := hide HAN.out.holds
          clear HAN
          cases Q2
          · skip
            have hne := fun w => neq_cell (x := z) (y := z) hz8 hz8 w
            rw [same_cl] at hne
            try simp only [Bool.not_true] at hne
            have n0 := HE.out.rn.st
            have w0 := HE.out.rw.st
            go_wp2_with (first
              | ((with_reducible refine wpList_load_ce hz8 ?_ ?_ HE.out.rn.all ?_); rfl; rfl)
              | ((with_reducible refine wpList_load_ce hz8 ?_ ?_ HE.out.rw.all ?_); rfl; rfl)
              | fail)
            go_roundw
            case rel => exact ⟨k + 1, x', by omega, by omega, by go_num, HL2, hide HE.out.rl⟩
            case measure => simp [intOf]; omega
          · have HH3 := hide (HHH.out rfl)
            clear HHH
            cases hst : (z.st == 3)
            · skip
              have hne := fun w => neq_cell (x := z) (y := z) hz8 hz8 w
              rw [same_cl] at hne
              try simp only [Bool.not_true] at hne
              have hbp := fun w => below_any z.p.1 z.p.2 z.p.1 z.p.2 w
              have hbv := fun w => below_any z.v.1 z.v.2 z.v.1 z.v.2 w
              rw [show ltP (z.p.1, z.p.2) (z.p.1, z.p.2) = false from HH3.out.1] at hbp
              rw [show ltP (z.v.1, z.v.2) (z.v.1, z.v.2) = false from HH3.out.2.1] at hbv
              have HBP := hide hbp
              have HBV := hide hbv
              clear hbp hbv
              have n0 := HE.out.rn.st
              have w0 := HE.out.rw.st
              go_wp2_with (first
                | ((with_reducible refine wpList_load_ce hz8 ?_ ?_ HE.out.rn.all ?_); rfl; rfl)
                | ((with_reducible refine wpList_load_ce hz8 ?_ ?_ HE.out.rw.all ?_); rfl; rfl)
                | ((with_reducible refine wpList_load_bal ?_ ?_ HE.out.rn.p ?_); rfl; rfl)
                | ((with_reducible refine wpList_load_bal ?_ ?_ HE.out.rw.p ?_); rfl; rfl)
                | ((with_reducible refine wpList_load_bal ?_ ?_ HE.out.rn.v ?_); rfl; rfl)
                | ((with_reducible refine wpList_load_bal ?_ ?_ HE.out.rw.v ?_); rfl; rfl)
                | (go_at_call 21; (with_reducible refine (HBP.out _).mono ?_); rintro e w9 ⟨rfl, hb⟩; replace HE := hide (HE.out.kept hb); clear hb n0 w0; have n0 := HE.out.rn.st; have w0 := HE.out.rw.st)
                | (go_at_call 21; (with_reducible refine (HBV.out _).mono ?_); rintro e wa ⟨rfl, hb⟩; replace HE := hide (HE.out.kept hb); clear hb n0 w0; have n0 := HE.out.rn.st; have w0 := HE.out.rw.st)
                | fail)
              go_roundw
              case rel => exact ⟨k + 1, x', by omega, by omega, by go_num, HL2, hide HE.out.rl⟩
              case measure => simp [intOf]; omega
            · skip
              have hne := fun w => neq_cell (x := z) (y := z) hz8 hz8 w
              rw [same_cl] at hne
              try simp only [Bool.not_true] at hne
              have hbp := fun w => below_any z.p.1 z.p.2 z.p.1 z.p.2 w
              have hbv := fun w => below_any z.v.1 z.v.2 z.v.1 z.v.2 w
              rw [show ltP (z.p.1, z.p.2) (z.p.1, z.p.2) = false from HH3.out.1] at hbp
              rw [show ltP (z.v.1, z.v.2) (z.v.1, z.v.2) = false from HH3.out.2.1] at hbv
              have HBP := hide hbp
              have HBV := hide hbv
              clear hbp hbv
              have hs := eq_of_beq hst
              obtain ⟨hs2, hc2, ha2⟩ := HH3.out.2.2 hs
              have hst2 : (z.st != 3) = false := by rw [hs2]; rfl
              have hncm := fun w => neq_cm z.c z.c w
              have hnat := fun w => neq_at (x := z.a) (y := z.a) hz8 hz8 w
              rw [show sameC z.c z.c = true from sameC_iff.2 hc2] at hncm
              rw [show decide (z.a = z.a) = true from decide_eq_true ha2] at hnat
              simp only [Bool.not_true] at hncm hnat
              clear hs hs2 hc2 ha2
              have n0 := HE.out.rn.st
              have w0 := HE.out.rw.st
              go_wp2_with (first
                | ((with_reducible refine wpList_load_ce hz8 ?_ ?_ HE.out.rn.all ?_); rfl; rfl)
                | ((with_reducible refine wpList_load_ce hz8 ?_ ?_ HE.out.rw.all ?_); rfl; rfl)
                | ((with_reducible refine wpList_load_bal ?_ ?_ HE.out.rn.p ?_); rfl; rfl)
                | ((with_reducible refine wpList_load_bal ?_ ?_ HE.out.rw.p ?_); rfl; rfl)
                | ((with_reducible refine wpList_load_bal ?_ ?_ HE.out.rn.v ?_); rfl; rfl)
                | ((with_reducible refine wpList_load_bal ?_ ?_ HE.out.rw.v ?_); rfl; rfl)
                | ((with_reducible refine wpList_load_cm ?_ ?_ HE.out.rn.c ?_); rfl; rfl)
                | ((with_reducible refine wpList_load_cm ?_ ?_ HE.out.rw.c ?_); rfl; rfl)
                | ((with_reducible refine wpList_load_at hz8 ?_ ?_ HE.out.rn.a ?_); rfl; rfl)
                | ((with_reducible refine wpList_load_at hz8 ?_ ?_ HE.out.rw.a ?_); rfl; rfl)
                | (go_at_call 21; (with_reducible refine (HBP.out _).mono ?_); rintro e w9 ⟨rfl, hb⟩; replace HE := hide (HE.out.kept hb); clear hb n0 w0; have n0 := HE.out.rn.st; have w0 := HE.out.rw.st)
                | (go_at_call 21; (with_reducible refine (HBV.out _).mono ?_); rintro e wa ⟨rfl, hb⟩; replace HE := hide (HE.out.kept hb); clear hb n0 w0; have n0 := HE.out.rn.st; have w0 := HE.out.rw.st)
                | fail)
              go_roundw
              case rel => exact ⟨k + 1, x', by omega, by omega, by go_num, HL2, hide HE.out.rl⟩
              case measure => simp [intOf]; omega
        · obtain ⟨hz, hq⟩ := HAN.out.yes rfl
          subst hz; subst hq
          have HHH := hide HAN.out.holds
          clear HAN
          cases Q
          · skip
            have hne := fun w => neq_cell (x := a.c) (y := a.c) h8 h8 w
            rw [same_cl] at hne
            try simp only [Bool.not_true] at hne
            have n0 := HE.out.rn.st
            have w0 := HE.out.rw.st
            go_wp2_with (first
              | ((with_reducible refine wpList_load_ce h8 ?_ ?_ HE.out.rn.all ?_); rfl; rfl)
              | ((with_reducible refine wpList_load_ce h8 ?_ ?_ HE.out.ra.cell ?_); rfl; rfl)
              | fail)
            go_roundw
            case rel => exact ⟨k + 1, x', by omega, by omega, by go_num, HL2, hide HE.out.rl⟩
            case measure => simp [intOf]; omega
          · have HH3 := hide (HHH.out rfl)
            clear HHH
            cases hst : (y.st == 3)
            · skip
              have hne := fun w => neq_cell (x := a.c) (y := a.c) h8 h8 w
              rw [same_cl] at hne
              try simp only [Bool.not_true] at hne
              have hbp := fun w => below_any a.c.p.1 a.c.p.2 y.p.1 y.p.2 w
              have hbv := fun w => below_any a.c.v.1 a.c.v.2 y.v.1 y.v.2 w
              rw [show ltP (a.c.p.1, a.c.p.2) (y.p.1, y.p.2) = false from HH3.out.1] at hbp
              rw [show ltP (a.c.v.1, a.c.v.2) (y.v.1, y.v.2) = false from HH3.out.2.1] at hbv
              have HBP := hide hbp
              have HBV := hide hbv
              clear hbp hbv
              have n0 := HE.out.rn.st
              have w0 := HE.out.rw.st
              go_wp2_with (first
                | ((with_reducible refine wpList_load_ce h8 ?_ ?_ HE.out.rn.all ?_); rfl; rfl)
                | ((with_reducible refine wpList_load_ce h8 ?_ ?_ HE.out.ra.cell ?_); rfl; rfl)
                | ((with_reducible refine wpList_load_bal ?_ ?_ HE.out.rn.p ?_); rfl; rfl)
                | ((with_reducible refine wpList_load_bal ?_ ?_ HE.out.rw.p ?_); rfl; rfl)
                | ((with_reducible refine wpList_load_bal ?_ ?_ HE.out.rn.v ?_); rfl; rfl)
                | ((with_reducible refine wpList_load_bal ?_ ?_ HE.out.rw.v ?_); rfl; rfl)
                | (go_at_call 21; (with_reducible refine (HBP.out _).mono ?_); rintro e w9 ⟨rfl, hb⟩; replace HE := hide (HE.out.kept hb); clear hb n0 w0; have n0 := HE.out.rn.st; have w0 := HE.out.rw.st)
                | (go_at_call 21; (with_reducible refine (HBV.out _).mono ?_); rintro e wa ⟨rfl, hb⟩; replace HE := hide (HE.out.kept hb); clear hb n0 w0; have n0 := HE.out.rn.st; have w0 := HE.out.rw.st)
                | fail)
              go_roundw
              case rel => exact ⟨k + 1, x', by omega, by omega, by go_num, HL2, hide HE.out.rl⟩
              case measure => simp [intOf]; omega
            · skip
              have hne := fun w => neq_cell (x := a.c) (y := a.c) h8 h8 w
              rw [same_cl] at hne
              try simp only [Bool.not_true] at hne
              have hbp := fun w => below_any a.c.p.1 a.c.p.2 y.p.1 y.p.2 w
              have hbv := fun w => below_any a.c.v.1 a.c.v.2 y.v.1 y.v.2 w
              rw [show ltP (a.c.p.1, a.c.p.2) (y.p.1, y.p.2) = false from HH3.out.1] at hbp
              rw [show ltP (a.c.v.1, a.c.v.2) (y.v.1, y.v.2) = false from HH3.out.2.1] at hbv
              have HBP := hide hbp
              have HBV := hide hbv
              clear hbp hbv
              have hs := eq_of_beq hst
              obtain ⟨hs2, hc2, ha2⟩ := HH3.out.2.2 hs
              have hst2 : (a.c.st != 3) = false := by rw [hs2]; rfl
              have hncm := fun w => neq_cm a.c.c y.c w
              have hnat := fun w => neq_at (x := a.c.a) (y := y.a) h8 hy8 w
              rw [show sameC a.c.c y.c = true from sameC_iff.2 hc2] at hncm
              rw [show decide (a.c.a = y.a) = true from decide_eq_true ha2] at hnat
              simp only [Bool.not_true] at hncm hnat
              clear hs hs2 hc2 ha2
              have n0 := HE.out.rn.st
              have w0 := HE.out.rw.st
              go_wp2_with (first
                | ((with_reducible refine wpList_load_ce h8 ?_ ?_ HE.out.rn.all ?_); rfl; rfl)
                | ((with_reducible refine wpList_load_ce h8 ?_ ?_ HE.out.ra.cell ?_); rfl; rfl)
                | ((with_reducible refine wpList_load_bal ?_ ?_ HE.out.rn.p ?_); rfl; rfl)
                | ((with_reducible refine wpList_load_bal ?_ ?_ HE.out.rw.p ?_); rfl; rfl)
                | ((with_reducible refine wpList_load_bal ?_ ?_ HE.out.rn.v ?_); rfl; rfl)
                | ((with_reducible refine wpList_load_bal ?_ ?_ HE.out.rw.v ?_); rfl; rfl)
                | ((with_reducible refine wpList_load_cm ?_ ?_ HE.out.rn.c ?_); rfl; rfl)
                | ((with_reducible refine wpList_load_cm ?_ ?_ HE.out.rw.c ?_); rfl; rfl)
                | ((with_reducible refine wpList_load_at h8 ?_ ?_ HE.out.rn.a ?_); rfl; rfl)
                | ((with_reducible refine wpList_load_at hy8 ?_ ?_ HE.out.rw.a ?_); rfl; rfl)
                | (go_at_call 21; (with_reducible refine (HBP.out _).mono ?_); rintro e w9 ⟨rfl, hb⟩; replace HE := hide (HE.out.kept hb); clear hb n0 w0; have n0 := HE.out.rn.st; have w0 := HE.out.rw.st)
                | (go_at_call 21; (with_reducible refine (HBV.out _).mono ?_); rintro e wa ⟨rfl, hb⟩; replace HE := hide (HE.out.kept hb); clear hb n0 w0; have n0 := HE.out.rn.st; have w0 := HE.out.rw.st)
                | fail)
              go_roundw
              case rel => exact ⟨k + 1, x', by omega, by omega, by go_num, HL2, hide HE.out.rl⟩
              case measure => simp [intOf]; omega
    · have hend : ¬ ((k : Int) < (n : Int) ∧ (k : Int) < 60) := by omega
      by_cases h1 : (k : Int) < (n : Int)
      · have h2 : ¬ (k : Int) < 60 := fun h => hend ⟨h1, h⟩
        clear hend
        go_wp2_with (go_at_call 3; (with_reducible refine (runs_any _).mono ?_); rintro e w3 ⟨rfl, hb⟩; replace HR := hide (HR.out.below hb); clear hb)
        go_ret
        exact ⟨rfl, HR.out.low⟩
      · clear hend
        go_wp2_with (go_at_call 3; (with_reducible refine (runs_any _).mono ?_); rintro e w3 ⟨rfl, hb⟩; replace HR := hide (HR.out.below hb); clear hb)
        go_ret
        exact ⟨rfl, HR.out.low⟩
set_option maxRecDepth 100000 in
theorem lifted (os : Os) (started : os.Started) (H : Type) (enc : TypeId × Value → H) :
    ReturnsInHanded {} Try.checked os 5 .any (Rows.logHoldsSpec.pre6 enc Try.prog Try.f5 Rows.logHoldsRow.domain false) (Rows.logHoldsSpec.post enc Try.prog Try.f5 false true false false) := by
  refine returnsInHanded_of_change_sized (C := Try.checked) own started (by kernel_rfl) Try.func5
    (ChangeSpec.witness6 (enc := enc) (C := Try.checked) false ⟨#[], #[.slice none 0 0], []⟩ 8 (by kernel_rfl) (by kernel_rfl) (by kernel_rfl) (by kernel_rfl)) ?_
  intro W base args ds gs before hval0 hW _ hsz0 _
  have hval : ∀ (j : Nat) t v, Try.f5.params[j]? = some t → args[j]? = some v → Value.okWide Try.prog W .any base t v := hval0
  have hW' := hW
  obtain ⟨p, q, hA0, hV, rfl, _, _⟩ := hW
  have hA : DataW.TrodAll enc Try.prog W 0 (fun _ => true) true Try.f5.params.toList args.toList ds p := hA0
  have hsz : (DataW.weightsEach Try.prog (Try.f5.params.toList ++ Rows.logHoldsSpec.plain.varTypes Try.prog) (ds ++ gs)).all (· ≤ reachBytes) = true := hsz0
  rw [Try.params5] at hA hval hsz
  obtain ⟨v0, vs0, d0, ds0, p0, q0, hargs, rfl, rfl, h0, r0⟩ := trodAll_cons hA
  obtain ⟨rfl, rfl, rfl⟩ := trodAll_nil r0
  obtain rfl : args = #[v0] := by cases args; simp_all
  obtain ⟨rfl, rfl⟩ := trodVars_none hV
  have k0 := h0
  have lt0 : ∀ x ∈ p0, x.block < W.heap.size := by obtain ⟨m, hm⟩ := k0; exact DataW.trod_lt m _ _ _ hm
  obtain ⟨A0, n0, c0, rfl⟩ := okWide_slice Try.underlying44 (hval 0 44 v0 rfl rfl)
  obtain ⟨z0, s0⟩ := gasks_in (j := 0) h0 hsz rfl rfl
  clear hA0 hval0
  refine (walk A0 n0 c0 z0 W s0).mono fun e W' ⟨he, bel⟩ => ?_
  subst he
  exact ⟨_, rfl, _, _, _, [], _, [], hW', trodAll_mk1 (shut_bool Try.underlying4 _), (trodAll_cons_mk (Below.trod laidOut (by kernel_rfl) (of_decide_eq_true (by kernel_rfl)) k0 bel lt0) trodAll_mk0), rfl, bel.frame _, fun h => by cases h⟩
theorem over : Rows.logHoldsRow.holds Try.pinned (OpenSpec.ofChange Rows.logHoldsSpec) :=
  OpenClaim.holds_of_wide 5 Try.f5 rfl rfl rfl rfl rfl rfl rfl ⟨rfl, rfl, rfl, rfl, rfl⟩ rfl rfl rfl rfl rfl (by kernel_rfl) Try.func5 (by kernel_rfl)
    (of_decide_eq_true (by kernel_rfl)) (by unfold Func.isWrapper; first | (rw [if_pos (by decide +kernel)]; kernel_rfl) | (rw [if_neg (by decide +kernel)]; exact ⟨rfl, rfl⟩))
    (fun os started H enc _ => lifted os started H enc)
theorem proved : Rows.LogHoldsSaid := over
end Go.Proofs.Ytiaegloipnhhdaa.logHolds
