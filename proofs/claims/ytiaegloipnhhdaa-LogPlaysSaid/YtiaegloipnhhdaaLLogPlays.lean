/- Proved: the law LogPlays returns true for any deps and any calls. No condition. -/
import Derived.Test.YtiaegloipnhhdaaWa
import Derived.Test.YtiaegloipnhhdaaVz
import Derived.Test.YtiaegloipnhhdaaWx
import Derived.LoopTactic
import Derived.Deep.CutBlock
namespace Go.Proofs.Ytiaegloipnhhdaa.logPlays
open Go.ChangeShapes Go.WideShapes Go.ChangeAt Go.RowKit
open Go.Maps
set_option maxRecDepth 100000 in
set_option maxHeartbeats 64000000 in
theorem walk (p0 p1 p2 p3 p4 p5 p6 : Int) (A : Option Addr) (n c : Nat) (l : List Ga) (W : World) (_ : ∀ z ∈ [p0, p1, p2, p3, p4, p5, p6], I64 z) (hs : GasIn W A n c l) :
    Calls Try.prog 4 #[.agg #[.int .i64 p0, .int .i64 p1, .int .i64 p2, .int .i64 p3, .int .i64 p4, .int .i64 p5, .int .i64 p6], .slice A n c] W fun e w' => e = .returned (.bool true) ∧ Below W.heap.size W w' := by
  have HS := hide hs
  have hn : n ≤ 9223372036854775807 := by have h1 := hs.le; have h2 := hs.room; omega
  have HN := hide hs.len
  have HNW := hide (show ∀ w, Calls Try.prog 7 #[.agg #[.int .i64 p0, .int .i64 p1, .int .i64 p2, .int .i64 p3, .int .i64 p4, .int .i64 p5, .int .i64 p6]] w fun e w' => ∃ g b, e = .returned (.pointer (some ⟨g, 0, none⟩)) ∧ Pg w' g b (trimL zeroLw [p0, p1, p2, p3, p4, p5, p6]) ∧ Below w.heap.size w w' ∧ w.heap.size ≤ g ∧ w.heap.size ≤ b from fun w => pnew_any (d := [p0, p1, p2, p3, p4, p5, p6]) rfl w)
  have HX0 := hide (show (trimL zeroLw [p0, p1, p2, p3, p4, p5, p6]).k.length ≤ 0 from trim_len _ _)
  clear hs
  go_enter Try.func4, Try.ntmps4
  go_upto_region 1 with (fail)
  have RU := hide (Row.new W 25 #[.int .i64 p0, .int .i64 p1, .int .i64 p2, .int .i64 p3, .int .i64 p4, .int .i64 p5, .int .i64 p6])
  have HB := hide (kept_alloc (kept_refl W) (.cells #[.int .i64 p0, .int .i64 p1, .int .i64 p2, .int .i64 p3, .int .i64 p4, .int .i64 p5, .int .i64 p6] 25))
  generalize W.alloc (.cells #[.int .i64 p0, .int .i64 p1, .int .i64 p2, .int .i64 p3, .int .i64 p4, .int .i64 p5, .int .i64 p6] 25) = w1 at RU HB ⊢
  have HSW := hide HB.out.size
  generalize hbu : W.heap.size = bu at RU ⊢
  obtain ⟨q0, q1, q2, q3, q4, q5, q6⟩ := cells7 (p0 := p0) (p1 := p1) (p2 := p2) (p3 := p3) (p4 := p4) (p5 := p5) (p6 := p6) RU.out
  go_upto_region 2 with (first
    | (go_at_call 7; (with_reducible refine (HNW.out _).mono ?_); rintro e w2 ⟨g, b, rfl, hp, hb, hg1, hb1⟩; have HR := hide (show Rl W w2 g b (trimL zeroLw [p0, p1, p2, p3, p4, p5, p6]) from ⟨kept_trans HB.out hb, hp, Nat.le_trans HSW.out hg1, Nat.le_trans HSW.out hb1⟩); replace RU := hide (RU.out.below hb RU.out.lt); clear hp hb hg1 hb1 q0 q1 q2 q3 q4 q5 q6))
  have HB := hide (show Bo W (w2.alloc (.cells #[.slice none 0 0, .slice none 0 0, .int .i64 0, .int .i64 0, .int .i64 0, .int .i64 0, .int .i64 0, .int .i64 0, .int .i64 0] 48)) g b w2.heap.size (.slice none 0 0) (.slice none 0 0) (trimL zeroLw [p0, p1, p2, p3, p4, p5, p6]) zeroLw from
    ⟨HR.out.below (kept_alloc (kept_refl w2) _), ⟨Row.new w2 _ _, rw_nil _ _ _ _, rw_nil _ _ _ _, rfl, fun e he => by cases he⟩, HR.out.low.size⟩)
  replace RU := hide (RU.out.alloc (.cells #[.slice none 0 0, .slice none 0 0, .int .i64 0, .int .i64 0, .int .i64 0, .int .i64 0, .int .i64 0, .int .i64 0, .int .i64 0] 48))
  generalize w2.alloc (.cells #[.slice none 0 0, .slice none 0 0, .int .i64 0, .int .i64 0, .int .i64 0, .int .i64 0, .int .i64 0, .int .i64 0, .int .i64 0] 48) = w3 at HB RU ⊢
  generalize w2.heap.size = dl at HB ⊢
  clear HR HNW HSW
  obtain ⟨q0, q1, q2, q3, q4, q5, q6⟩ := cells7 (p0 := p0) (p1 := p1) (p2 := p2) (p3 := p3) (p4 := p4) (p5 := p5) (p6 := p6) RU.out
  have HTR := hide (show Calls Try.prog 14 #[.pointer (some ⟨dl, 0, none⟩), .agg #[.int .i64 p0, .int .i64 p1, .int .i64 p2, .int .i64 p3, .int .i64 p4, .int .i64 p5, .int .i64 p6]] w3 fun e w' => e = .returned (.tuple #[]) ∧ ∃ vI' vC', Bo W w' g b dl vI' vC' (trimL zeroLw [p0, p1, p2, p3, p4, p5, p6]) (trimL zeroLw [p0, p1, p2, p3, p4, p5, p6]) from brtrim_any (u := [p0, p1, p2, p3, p4, p5, p6]) HB.out rfl (by decide))
  go_upto_region 3 with (first
    | (go_at_call 14; (with_reducible refine HTR.out.mono ?_); rintro e w4 ⟨rfl, vI, vC, ho⟩; replace HB := hide ho; clear ho q0 q1 q2 q3 q4 q5 q6))
  clear HTR RU
  generalize trimL zeroLw [p0, p1, p2, p3, p4, p5, p6] = x0 at HB HX0
  go_wp2_with (first
    | (go_at_call 15; (with_reducible refine (balike_any HB.out (by have := HX0.out; omega)).mono ?_); rintro e w5 ⟨rfl, hb⟩; replace HB := hide (HB.out.below hb); clear hb))
  go_loopw [7] (fun i wr => ∃ (k : Nat) (x : Lw) (vI vC : Value), k ≤ n ∧ k ≤ 60 ∧ i = .int .i64 k ∧ Hid (x.k.length ≤ k) ∧ Hid (Bo W wr g b dl vI vC x x)) (fun i _ => 60 - (intOf i).toNat)
  case atStart => exact ⟨0, x0, vI, vC, by omega, by omega, rfl, HX0, HB⟩
  case round =>
    clear HB HX0
    obtain ⟨k, x, vI, vC, hk, hk60, rfl, HL, HB⟩ := hrel
    by_cases hlt : k < n ∧ k < 60
    · obtain ⟨h1, h2⟩ := hlt
      have h1i : (k : Int) < (n : Int) := by omega
      have h2i : (k : Int) < 60 := by omega
      have hkl : k < l.length := by rw [HN.out]; exact h1
      obtain ⟨a, ha⟩ : ∃ a, l[k]? = some a := ⟨_, List.getElem?_eq_getElem hkl⟩
      have hok := HS.out.ok a (List.mem_of_getElem? ha)
      obtain ⟨gl, off, hA, hC⟩ := HS.out.at_ HB.out.rl.low ha
      subst hA
      have HC := hide hC
      have hok31 := Ga.len hok
      have HOK := hide hok
      have HLI := hide (fun w => light_any a.c hok.c w)
      have h8 := hok.c.a
      have hxl : x.k.length ≤ 1000000000 := by have := HL.out; omega
      have hx3 : x.k.length ≤ 1000 := by have := HL.out; omega
      clear ha hkl hC hok
      go_upto_region 9 with (first
        | ((with_reducible refine wpList_load_g ?_ ?_ HC.out ga_under rfl (by rw [hok31]; exact ga_info) ?_); rfl; rfl)
        | ((with_reducible refine wpList_store_new (vs := gaC a) ?_ ?_ (ga_all _) ?_ ?_ ?_); (rw [gaC_size HOK.out]; exact ga_info); (rw [gaC_size HOK.out]; rfl); (first | rfl | (simp; done)); rfl))
      try dsimp only [Act.put]
      replace HB := hide (show Bk W (wr.alloc (.cells (gaC a) 51)) g b dl vI vC x x wr.heap.size a from ⟨HB.out.below (kept_alloc (kept_refl wr) _), GaAt.new HOK.out wr⟩)
      generalize wr.alloc (.cells (gaC a) 51) = w3 at HB ⊢
      generalize wr.heap.size = ba at HB ⊢
      clear HC hok31
      cases hq : lightB a.c
      · simp only [hq] at HLI
        clear hq
        go_wp2_with (first
          | ((with_reducible refine wpList_load_ce h8 ?_ ?_ HB.out.ga.cell ?_); rfl; rfl)
          | (go_at_call 16; (with_reducible refine (HLI.out _).mono ?_); rintro e w3 ⟨rfl, hb⟩; replace HB := hide (HB.out.below hb); clear hb))
        go_roundw
        case rel => exact ⟨k + 1, x, vI, vC, by omega, by omega, by go_num, hide (by have := HL.out; omega), hide HB.out.bo⟩
        case measure => simp [intOf]; omega
      · simp only [hq] at HLI
        clear hq
        go_upto_region 10 with (first
          | ((with_reducible refine wpList_load_ce h8 ?_ ?_ HB.out.ga.cell ?_); rfl; rfl)
          | (go_at_call 16; (with_reducible refine (HLI.out _).mono ?_); rintro e w5 ⟨rfl, hb⟩; replace HB := hide (HB.out.below hb); clear hb))
        have z0 := HB.out.ga.kind
        go_upto_block 2 with (fail)
        clear z0 HLI
        go_cut [] from 48 to 107 (fun wx => ∃ (x' : Lw) (vI' vC' : Value), Hid (x'.k.length ≤ k + 1) ∧ Hid (Bo W wx g b dl vI' vC' x' x'))
        case first =>
          have HKL := hide HB.out.bo.rl.pg.kl
          by_cases hk1' : a.k = 1
          · have hk1 : (a.k == (1 : Int)) = true := by rw [hk1']; rfl
            clear hk1'
            have HST := hide (fun w (h : Pg w g b x) => pset_any h h8 hxl a.i.1 a.i.2)
            have HRS := hide (fun w z (o : Bo W w g b dl vI vC z x) => brset_any o HKL.out h8 hx3 a.i.1 a.i.2)
            have HL2 := hide (show (setL x (a.i.1, a.i.2) a.c).k.length ≤ k + 1 from Nat.le_trans (set_len _ _ _) (by have := HL.out; omega))
            unfold SetP at HST
            generalize setL x (a.i.1, a.i.2) a.c = x' at HST HRS HL2
            generalize maySet x (a.i.1, a.i.2) a.c = M at HST HRS
            go_upto_region 12 with (fail)
            refine wp_region_noPanic ?_
            refine wp_region_U 11 (fun wz => GaAt wz ba a) (by kernel_rfl) ?_
            have HD0 := hide (show Below w5.heap.size w5 w5.drew from kept_drewN (kept_refl _) 1)
            replace HB := hide (HB.out.below HD0.out)
            clear HD0
            have HD := hide HB.out.ga
            generalize w5.drew = we at HB HD ⊢
            refine anyU_take2 (i := 0) (v := .pointer (some ⟨g, 0, none⟩)) (by simp only [List.getElem?_toArray, List.getElem?_cons_zero]; exact rfl) (by kernel_rfl) 12 (by kernel_rfl) (by kernel_rfl) (fun _ _ _ h => h) (by kernel_rfl) (by kernel_rfl) (by kernel_rfl) (by kernel_rfl) (Or.inl ⟨by rfl, fun w hSw => (by go_simp; try with_reducible rfl)⟩) (by with_reducible exact HD.out) ?_
            try simp only [Act.put, List.setIfInBounds_toArray, List.set_cons_zero, List.set_cons_succ]
            refine anyU_take2 (i := 1) (v := .pointer (some ⟨ba, 1, none⟩)) (by simp only [List.getElem?_toArray, List.getElem?_cons_succ, List.getElem?_cons_zero]; exact rfl) (by kernel_rfl) 12 (by kernel_rfl) (by kernel_rfl) (fun _ _ _ h => h) (by kernel_rfl) (by kernel_rfl) (by kernel_rfl) (by kernel_rfl) (Or.inl ⟨by rfl, fun w hSw => (by go_simp; try with_reducible rfl)⟩) (by with_reducible exact HD.out) ?_
            try simp only [Act.put, List.setIfInBounds_toArray, List.set_cons_zero, List.set_cons_succ]
            refine anyU_take2 (i := 2) (v := .agg #[.int .i64 a.i.1, .int .i64 a.i.2]) (by simp only [List.getElem?_toArray, List.getElem?_cons_succ, List.getElem?_cons_zero]; exact rfl) (by kernel_rfl) 12 (by kernel_rfl) (by kernel_rfl) (fun _ _ _ h => h) (by kernel_rfl) (by kernel_rfl) (by kernel_rfl) (by kernel_rfl) (Or.inl ⟨by rfl, fun w hSw => (by have x0 : w.cell? ⟨ba, 1, none⟩ = some (.int .i64 a.i.1) := hSw.i0; have x1 : w.cell? ⟨ba, 1 + 1, none⟩ = some (.int .i64 a.i.2) := hSw.i1; go_simp; try with_reducible rfl)⟩) (by with_reducible exact HD.out) ?_
            try simp only [Act.put, List.setIfInBounds_toArray, List.set_cons_zero, List.set_cons_succ]
            refine anyU_take2 (i := 3) (v := .pointer (some ⟨ba, 3, none⟩)) (by simp only [List.getElem?_toArray, List.getElem?_cons_succ, List.getElem?_cons_zero]; exact rfl) (by kernel_rfl) 12 (by kernel_rfl) (by kernel_rfl) (fun _ _ _ h => h) (by kernel_rfl) (by kernel_rfl) (by kernel_rfl) (by kernel_rfl) (Or.inl ⟨by rfl, fun w hSw => (by go_simp; try with_reducible rfl)⟩) (by with_reducible exact HD.out) ?_
            try simp only [Act.put, List.setIfInBounds_toArray, List.set_cons_zero, List.set_cons_succ]
            refine anyU_take2 (i := 4) (v := .agg (clC a.c)) (by simp only [List.getElem?_toArray, List.getElem?_cons_succ, List.getElem?_cons_zero]; exact rfl) (by kernel_rfl) 12 (by kernel_rfl) (by kernel_rfl) (fun _ _ _ h => h) (by kernel_rfl) (by kernel_rfl) (by kernel_rfl) (by kernel_rfl) (Or.inl ⟨by rfl, fun w hSw => exec_load_gp rfl rfl hSw.cell ce_under rfl (by rw [Cl.len h8]; exact ce_info)⟩) (by with_reducible exact HD.out) ?_
            try simp only [Act.put, List.setIfInBounds_toArray, List.set_cons_zero, List.set_cons_succ]
            refine anyU_take2 (i := 6) (v := .pointer (some ⟨dl, 0, none⟩)) (by simp only [List.getElem?_toArray, List.getElem?_cons_succ, List.getElem?_cons_zero]; exact rfl) (by kernel_rfl) 12 (by kernel_rfl) (by kernel_rfl) (fun _ _ _ h => h) (by kernel_rfl) (by kernel_rfl) (by kernel_rfl) (by kernel_rfl) (Or.inl ⟨by rfl, fun w hSw => (by go_simp; try with_reducible rfl)⟩) (by with_reducible exact HD.out) ?_
            try simp only [Act.put, List.setIfInBounds_toArray, List.set_cons_zero, List.set_cons_succ]
            refine anyU_take2 (i := 7) (v := .pointer (some ⟨ba, 1, none⟩)) (by simp only [List.getElem?_toArray, List.getElem?_cons_succ, List.getElem?_cons_zero]; exact rfl) (by kernel_rfl) 12 (by kernel_rfl) (by kernel_rfl) (fun _ _ _ h => h) (by kernel_rfl) (by kernel_rfl) (by kernel_rfl) (by kernel_rfl) (Or.inl ⟨by rfl, fun w hSw => (by go_simp; try with_reducible rfl)⟩) (by with_reducible exact HD.out) ?_
            try simp only [Act.put, List.setIfInBounds_toArray, List.set_cons_zero, List.set_cons_succ]
            refine anyU_take2 (i := 8) (v := .agg #[.int .i64 a.i.1, .int .i64 a.i.2]) (by simp only [List.getElem?_toArray, List.getElem?_cons_succ, List.getElem?_cons_zero]; exact rfl) (by kernel_rfl) 12 (by kernel_rfl) (by kernel_rfl) (fun _ _ _ h => h) (by kernel_rfl) (by kernel_rfl) (by kernel_rfl) (by kernel_rfl) (Or.inl ⟨by rfl, fun w hSw => (by have x0 : w.cell? ⟨ba, 1, none⟩ = some (.int .i64 a.i.1) := hSw.i0; have x1 : w.cell? ⟨ba, 1 + 1, none⟩ = some (.int .i64 a.i.2) := hSw.i1; go_simp; try with_reducible rfl)⟩) (by with_reducible exact HD.out) ?_
            try simp only [Act.put, List.setIfInBounds_toArray, List.set_cons_zero, List.set_cons_succ]
            refine anyU_take2 (i := 9) (v := .pointer (some ⟨ba, 3, none⟩)) (by simp only [List.getElem?_toArray, List.getElem?_cons_succ, List.getElem?_cons_zero]; exact rfl) (by kernel_rfl) 12 (by kernel_rfl) (by kernel_rfl) (fun _ _ _ h => h) (by kernel_rfl) (by kernel_rfl) (by kernel_rfl) (by kernel_rfl) (Or.inl ⟨by rfl, fun w hSw => (by go_simp; try with_reducible rfl)⟩) (by with_reducible exact HD.out) ?_
            try simp only [Act.put, List.setIfInBounds_toArray, List.set_cons_zero, List.set_cons_succ]
            refine anyU_take2 (i := 10) (v := .agg (clC a.c)) (by simp only [List.getElem?_toArray, List.getElem?_cons_succ, List.getElem?_cons_zero]; exact rfl) (by kernel_rfl) 12 (by kernel_rfl) (by kernel_rfl) (fun _ _ _ h => h) (by kernel_rfl) (by kernel_rfl) (by kernel_rfl) (by kernel_rfl) (Or.inl ⟨by rfl, fun w hSw => exec_load_gp rfl rfl hSw.cell ce_under rfl (by rw [Cl.len h8]; exact ce_info)⟩) (by with_reducible exact HD.out) ?_
            try simp only [Act.put, List.setIfInBounds_toArray, List.set_cons_zero, List.set_cons_succ]
            refine anyU_one (i := 5) (by kernel_rfl) (by simp only [List.getElem?_toArray, List.getElem?_cons_succ, List.getElem?_cons_zero]; exact rfl) (fun K hK => ?_)
            try go_simp
            refine (HST.out _ HB.out.bo.rl.pg).mono ?_
            rintro e wf ⟨rfl, hp, hk⟩
            replace HB := hide (HB.out.pset hp hk)
            replace HD := hide HB.out.ga
            clear hp hk
            refine hK.out _ _ (fun _ _ => HD.out) ?_
            clear hK K
            try simp only [Act.put, List.setIfInBounds_toArray, List.set_cons_zero, List.set_cons_succ]
            refine anyU_one (i := 11) (by kernel_rfl) (by simp only [List.getElem?_toArray, List.getElem?_cons_succ, List.getElem?_cons_zero]; exact rfl) (fun K hK => ?_)
            try go_simp
            refine (HRS.out _ _ HB.out.bo).mono ?_
            rintro e wg ⟨rfl, vI', vC', ho⟩
            have HB2 := hide ho
            clear ho
            refine hK.out _ _ (fun e _ => absurd rfl e) ?_
            clear hK K
            try simp only [Act.put]
            try simp only [Act.put, List.setIfInBounds_toArray, List.set_cons_zero, List.set_cons_succ]
            refine anyU_one (i := 12) (by kernel_rfl) (by simp only [List.getElem?_toArray, List.getElem?_cons_succ, List.getElem?_cons_zero]; exact rfl) (fun K hK => ?_)
            try go_simp
            refine hK.out _ _ (fun _ l => absurd (l.symm.trans (show _ = true by kernel_rfl)) (by decide)) ?_
            clear hK K
            try simp only [Act.put, List.setIfInBounds_toArray, List.set_cons_zero, List.set_cons_succ]
            refine anyU_done (by kernel_rfl) ?_
            refine NoPanic.normal ?_
            try simp only [Act.put]
            go_wp2
            go_meet
            exact ⟨x', vI', vC', HL2, HB2⟩
          · have hk1 : (a.k == (1 : Int)) = false := by simpa using hk1'
            by_cases hk2' : a.k = 2
            · have hk2 : (a.k == (2 : Int)) = true := by rw [hk2']; rfl
              clear hk1' hk2'
              have hy8 := opt_a8 HKL.out (a.i.1, a.i.2)
              have HCP := hide (fun w (h : Pg w g b x) => pcell_any h a.i.1 a.i.2 HOK.out.i)
              have HCR := hide (fun w (h : Ro W.heap.size w dl vI vC x.k x.d) => rcell_any h HKL.out.up a.i.1 a.i.2 hxl)
              have HGP := hide (fun w (h : Pg w g b x) => pgone_any h a.i.1 a.i.2)
              have HGR := hide (fun w (h : Ro W.heap.size w dl vI vC x.k x.d) => rgone_any h a.i.1 a.i.2)
              unfold cellV at HCP HCR
              generalize cellL x.k (a.i.1, a.i.2) = oc at HCP HCR hy8
              generalize oc.getD zeroCl = y at HCP HCR hy8
              generalize oc.isSome = Q at HCP HCR
              generalize goneL x.d (a.i.1, a.i.2) = G at HGP HGR
              have z0 := HB.out.ga.i0
              have z1 := HB.out.ga.i1
              go_upto_region 16 with (first
                | (go_at_call 18; (with_reducible refine (HCP.out _ HB.out.bo.rl.pg).mono ?_); rintro e w6 ⟨rfl, hb⟩; replace HB := hide (HB.out.below hb); clear hb z0 z1)
                | ((with_reducible refine wpList_store_new (vs := clC y) ?_ ?_ (cl_all _) ?_ ?_ ?_); exact ce_size hy8; (rw [clC_size hy8]; rfl); (first | rfl | (simp; done)); rfl))
              try dsimp only [Act.put]
              have HN1 := hide (CeAt.new hy8 w6 37)
              replace HB := hide (HB.out.below (kept_alloc (kept_refl w6) (.cells (clC y) 37)))
              generalize w6.alloc (.cells (clC y) 37) = w7 at HN1 HB ⊢
              generalize w6.heap.size = b1 at HN1 ⊢
              have z0 := HB.out.ga.i0
              have z1 := HB.out.ga.i1
              go_upto_region 17 with (first
                | (go_at_call 19; (with_reducible refine (HCR.out _ HB.out.bo.ro).mono ?_); rintro e w8 ⟨rfl, hb⟩; replace HB := hide (HB.out.below hb); replace HN1 := hide (HN1.out.kept hb); clear hb z0 z1)
                | ((with_reducible refine wpList_store_new (vs := clC y) ?_ ?_ (cl_all _) ?_ ?_ ?_); exact ce_size hy8; (rw [clC_size hy8]; rfl); (first | rfl | (simp; done)); rfl))
              try dsimp only [Act.put]
              have HN2 := hide (CeAt.new hy8 w8 37)
              replace HB := hide (HB.out.below (kept_alloc (kept_refl w8) (.cells (clC y) 37)))
              replace HN1 := hide (HN1.out.kept (kept_alloc (kept_refl w8) (.cells (clC y) 37)))
              generalize w8.alloc (.cells (clC y) 37) = wd at HN1 HN2 HB ⊢
              generalize w8.heap.size = b2 at HN2 ⊢
              have hne := fun w => neq_cell (x := y) (y := y) hy8 hy8 w
              rw [show sameCl y y = true from sameCl_iff.2 rfl] at hne
              simp only [Bool.not_true] at hne
              have HQ := hide (fun wz (k : Below wd.heap.size wd wz) => (⟨HB.out.ga.kept k, HN1.out.kept k, HN2.out.kept k⟩ : GaAt wz ba a ∧ CeAt wz b1 37 y ∧ CeAt wz b2 37 y))
              refine wp_region_noPanic ?_
              refine wp_region_U 18 (fun wz => Below wd.heap.size wd wz) (by kernel_rfl) ?_
              have HD := hide (show Below wd.heap.size wd wd.drew from kept_drewN (kept_refl _) 1)
              replace HB := hide (HB.out.below HD.out)
              generalize wd.drew = we at HB HD ⊢
              refine anyU_take2 (i := 0) (v := .agg (clC y)) (by simp only [List.getElem?_toArray, List.getElem?_cons_zero]; exact rfl) (by kernel_rfl) 12 (by kernel_rfl) (by kernel_rfl) (fun _ _ _ h => h) (by kernel_rfl) (by kernel_rfl) (by kernel_rfl) (by kernel_rfl) (Or.inl ⟨by rfl, fun w hSw => exec_load_gp rfl rfl (HQ.out _ hSw).2.1.all ce_under rfl (by rw [Cl.len hy8]; exact ce_info)⟩) (by with_reducible exact HD.out) ?_
              try simp only [Act.put, List.setIfInBounds_toArray, List.set_cons_zero, List.set_cons_succ]
              refine anyU_take2 (i := 1) (v := .agg (clC y)) (by simp only [List.getElem?_toArray, List.getElem?_cons_succ, List.getElem?_cons_zero]; exact rfl) (by kernel_rfl) 12 (by kernel_rfl) (by kernel_rfl) (fun _ _ _ h => h) (by kernel_rfl) (by kernel_rfl) (by kernel_rfl) (by kernel_rfl) (Or.inl ⟨by rfl, fun w hSw => exec_load_gp rfl rfl (HQ.out _ hSw).2.2.all ce_under rfl (by rw [Cl.len hy8]; exact ce_info)⟩) (by with_reducible exact HD.out) ?_
              try simp only [Act.put, List.setIfInBounds_toArray, List.set_cons_zero, List.set_cons_succ]
              refine anyU_take2 (i := 2) (v := .bool false) (by simp only [List.getElem?_toArray, List.getElem?_cons_succ, List.getElem?_cons_zero]; exact rfl) (by kernel_rfl) 12 (by kernel_rfl) (by kernel_rfl) (fun _ _ _ h => h) (by kernel_rfl) (by kernel_rfl) (by kernel_rfl) (by kernel_rfl) (Or.inl ⟨by rfl, fun w hSw => (by go_simp; first | done | exact hne _ | (rw [hne]; done) | (simp only [hne]; done))⟩) (by with_reducible exact HD.out) ?_
              try simp only [Act.put, List.setIfInBounds_toArray, List.set_cons_zero, List.set_cons_succ]
              refine anyU_take2 (i := 3) (v := .bool false) (by simp only [List.getElem?_toArray, List.getElem?_cons_succ, List.getElem?_cons_zero]; exact rfl) (by kernel_rfl) 12 (by kernel_rfl) (by kernel_rfl) (fun _ _ _ h => h) (by kernel_rfl) (by kernel_rfl) (by kernel_rfl) (by kernel_rfl) (Or.inl ⟨by rfl, fun w hSw => (by go_simp; try with_reducible rfl)⟩) (by with_reducible exact HD.out) ?_
              try simp only [Act.put, List.setIfInBounds_toArray, List.set_cons_zero, List.set_cons_succ]
              refine anyU_take2 (i := 4) (v := .bool Q) (by simp only [List.getElem?_toArray, List.getElem?_cons_succ, List.getElem?_cons_zero]; exact rfl) (by kernel_rfl) 12 (by kernel_rfl) (by kernel_rfl) (fun _ _ _ h => h) (by kernel_rfl) (by kernel_rfl) (by kernel_rfl) (by kernel_rfl) (Or.inl ⟨by rfl, fun w hSw => (by go_simp; try with_reducible rfl)⟩) (by with_reducible exact HD.out) ?_
              try simp only [Act.put, List.setIfInBounds_toArray, List.set_cons_zero, List.set_cons_succ]
              refine anyU_take2 (i := 5) (v := .bool Q) (by simp only [List.getElem?_toArray, List.getElem?_cons_succ, List.getElem?_cons_zero]; exact rfl) (by kernel_rfl) 12 (by kernel_rfl) (by kernel_rfl) (fun _ _ _ h => h) (by kernel_rfl) (by kernel_rfl) (by kernel_rfl) (by kernel_rfl) (Or.inl ⟨by rfl, fun w hSw => (by go_simp; try with_reducible rfl)⟩) (by with_reducible exact HD.out) ?_
              try simp only [Act.put, List.setIfInBounds_toArray, List.set_cons_zero, List.set_cons_succ]
              refine anyU_take2 (i := 6) (v := .bool false) (by simp only [List.getElem?_toArray, List.getElem?_cons_succ, List.getElem?_cons_zero]; exact rfl) (by kernel_rfl) 12 (by kernel_rfl) (by kernel_rfl) (fun _ _ _ h => h) (by kernel_rfl) (by kernel_rfl) (by kernel_rfl) (by kernel_rfl) (Or.inl ⟨by rfl, fun w hSw => (by go_simp; first | done | (simp; done) | (cases Q <;> rfl))⟩) (by with_reducible exact HD.out) ?_
              try simp only [Act.put, List.setIfInBounds_toArray, List.set_cons_zero, List.set_cons_succ]
              refine anyU_take2 (i := 7) (v := .bool false) (by simp only [List.getElem?_toArray, List.getElem?_cons_succ, List.getElem?_cons_zero]; exact rfl) (by kernel_rfl) 12 (by kernel_rfl) (by kernel_rfl) (fun _ _ _ h => h) (by kernel_rfl) (by kernel_rfl) (by kernel_rfl) (by kernel_rfl) (Or.inl ⟨by rfl, fun w hSw => (by go_simp; try with_reducible rfl)⟩) (by with_reducible exact HD.out) ?_
              try simp only [Act.put, List.setIfInBounds_toArray, List.set_cons_zero, List.set_cons_succ]
              refine anyU_take2 (i := 8) (v := .bool false) (by simp only [List.getElem?_toArray, List.getElem?_cons_succ, List.getElem?_cons_zero]; exact rfl) (by kernel_rfl) 12 (by kernel_rfl) (by kernel_rfl) (fun _ _ _ h => h) (by kernel_rfl) (by kernel_rfl) (by kernel_rfl) (by kernel_rfl) (Or.inl ⟨by rfl, fun w hSw => (by go_simp; try with_reducible rfl)⟩) (by with_reducible exact HD.out) ?_
              try simp only [Act.put, List.setIfInBounds_toArray, List.set_cons_zero, List.set_cons_succ]
              refine anyU_take2 (i := 9) (v := .pointer (some ⟨g, 0, none⟩)) (by simp only [List.getElem?_toArray, List.getElem?_cons_succ, List.getElem?_cons_zero]; exact rfl) (by kernel_rfl) 12 (by kernel_rfl) (by kernel_rfl) (fun _ _ _ h => h) (by kernel_rfl) (by kernel_rfl) (by kernel_rfl) (by kernel_rfl) (Or.inl ⟨by rfl, fun w hSw => (by go_simp; try with_reducible rfl)⟩) (by with_reducible exact HD.out) ?_
              try simp only [Act.put, List.setIfInBounds_toArray, List.set_cons_zero, List.set_cons_succ]
              refine anyU_take2 (i := 10) (v := .pointer (some ⟨ba, 1, none⟩)) (by simp only [List.getElem?_toArray, List.getElem?_cons_succ, List.getElem?_cons_zero]; exact rfl) (by kernel_rfl) 12 (by kernel_rfl) (by kernel_rfl) (fun _ _ _ h => h) (by kernel_rfl) (by kernel_rfl) (by kernel_rfl) (by kernel_rfl) (Or.inl ⟨by rfl, fun w hSw => (by go_simp; try with_reducible rfl)⟩) (by with_reducible exact HD.out) ?_
              try simp only [Act.put, List.setIfInBounds_toArray, List.set_cons_zero, List.set_cons_succ]
              refine anyU_take2 (i := 11) (v := .agg #[.int .i64 a.i.1, .int .i64 a.i.2]) (by simp only [List.getElem?_toArray, List.getElem?_cons_succ, List.getElem?_cons_zero]; exact rfl) (by kernel_rfl) 12 (by kernel_rfl) (by kernel_rfl) (fun _ _ _ h => h) (by kernel_rfl) (by kernel_rfl) (by kernel_rfl) (by kernel_rfl) (Or.inl ⟨by rfl, fun w hSw => (by have y0 := (HQ.out _ hSw).1; have x0 : w.cell? ⟨ba, 1, none⟩ = some (.int .i64 a.i.1) := y0.i0; have x1 : w.cell? ⟨ba, 1 + 1, none⟩ = some (.int .i64 a.i.2) := y0.i1; go_simp; try with_reducible rfl)⟩) (by with_reducible exact HD.out) ?_
              try simp only [Act.put, List.setIfInBounds_toArray, List.set_cons_zero, List.set_cons_succ]
              refine anyU_take2 (i := 13) (v := .pointer (some ⟨dl, 0, none⟩)) (by simp only [List.getElem?_toArray, List.getElem?_cons_succ, List.getElem?_cons_zero]; exact rfl) (by kernel_rfl) 12 (by kernel_rfl) (by kernel_rfl) (fun _ _ _ h => h) (by kernel_rfl) (by kernel_rfl) (by kernel_rfl) (by kernel_rfl) (Or.inl ⟨by rfl, fun w hSw => (by go_simp; try with_reducible rfl)⟩) (by with_reducible exact HD.out) ?_
              try simp only [Act.put, List.setIfInBounds_toArray, List.set_cons_zero, List.set_cons_succ]
              refine anyU_take2 (i := 14) (v := .pointer (some ⟨ba, 1, none⟩)) (by simp only [List.getElem?_toArray, List.getElem?_cons_succ, List.getElem?_cons_zero]; exact rfl) (by kernel_rfl) 12 (by kernel_rfl) (by kernel_rfl) (fun _ _ _ h => h) (by kernel_rfl) (by kernel_rfl) (by kernel_rfl) (by kernel_rfl) (Or.inl ⟨by rfl, fun w hSw => (by go_simp; try with_reducible rfl)⟩) (by with_reducible exact HD.out) ?_
              try simp only [Act.put, List.setIfInBounds_toArray, List.set_cons_zero, List.set_cons_succ]
              refine anyU_take2 (i := 15) (v := .agg #[.int .i64 a.i.1, .int .i64 a.i.2]) (by simp only [List.getElem?_toArray, List.getElem?_cons_succ, List.getElem?_cons_zero]; exact rfl) (by kernel_rfl) 12 (by kernel_rfl) (by kernel_rfl) (fun _ _ _ h => h) (by kernel_rfl) (by kernel_rfl) (by kernel_rfl) (by kernel_rfl) (Or.inl ⟨by rfl, fun w hSw => (by have y0 := (HQ.out _ hSw).1; have x0 : w.cell? ⟨ba, 1, none⟩ = some (.int .i64 a.i.1) := y0.i0; have x1 : w.cell? ⟨ba, 1 + 1, none⟩ = some (.int .i64 a.i.2) := y0.i1; go_simp; try with_reducible rfl)⟩) (by with_reducible exact HD.out) ?_
              try simp only [Act.put, List.setIfInBounds_toArray, List.set_cons_zero, List.set_cons_succ]
              refine anyU_one (i := 12) (by kernel_rfl) (by simp only [List.getElem?_toArray, List.getElem?_cons_succ, List.getElem?_cons_zero]; exact rfl) (fun K hK => ?_)
              try go_simp
              refine (HGP.out _ HB.out.bo.rl.pg).mono ?_
              rintro e wg ⟨rfl, hb⟩
              replace HD := hide (kept_trans HD.out hb)
              replace HB := hide (HB.out.below hb)
              clear hb
              refine hK.out _ _ (fun _ _ => HD.out) ?_
              clear hK K
              try simp only [Act.put, List.setIfInBounds_toArray, List.set_cons_zero, List.set_cons_succ]
              refine anyU_one (i := 16) (by kernel_rfl) (by simp only [List.getElem?_toArray, List.getElem?_cons_succ, List.getElem?_cons_zero]; exact rfl) (fun K hK => ?_)
              try go_simp
              refine (HGR.out _ HB.out.bo.ro).mono ?_
              rintro e wh ⟨rfl, hb⟩
              replace HD := hide (kept_trans HD.out hb)
              replace HB := hide (HB.out.below hb)
              clear hb
              refine hK.out _ _ (fun _ _ => HD.out) ?_
              clear hK K
              try simp only [Act.put, List.setIfInBounds_toArray, List.set_cons_zero, List.set_cons_succ]
              refine anyU_take2 (i := 17) (v := .bool false) (by simp only [List.getElem?_toArray, List.getElem?_cons_succ, List.getElem?_cons_zero]; exact rfl) (by kernel_rfl) 12 (by kernel_rfl) (by kernel_rfl) (fun _ _ _ h => h) (by kernel_rfl) (by kernel_rfl) (by kernel_rfl) (by kernel_rfl) (Or.inl ⟨by rfl, fun w hSw => (by go_simp; first | done | (simp; done) | (cases G <;> rfl))⟩) (by with_reducible exact HD.out) ?_
              try simp only [Act.put, List.setIfInBounds_toArray, List.set_cons_zero, List.set_cons_succ]
              refine anyU_one (i := 18) (by kernel_rfl) (by simp only [List.getElem?_toArray, List.getElem?_cons_succ, List.getElem?_cons_zero]; exact rfl) (fun K hK => ?_)
              try go_simp
              refine hK.out _ _ (fun e _ => absurd rfl e) ?_
              clear hK K
              try simp only [Act.put]
              refine anyU_done (by kernel_rfl) ?_
              refine NoPanic.normal ?_
              try simp only [Act.put]
              go_wp2
              go_meet
              exact ⟨x, vI, vC, hide (by have := HL.out; omega), hide HB.out.bo⟩
            · have hk2 : (a.k == (2 : Int)) = false := by simpa using hk2'
              by_cases hk3' : a.k = 3
              · have hk3 : (a.k == (3 : Int)) = true := by rw [hk3']; rfl
                clear hk1' hk2' hk3'
                have hu7 := HOK.out.u
                have HTP := hide (fun w (h : Pg w g b x) => ptrim_any (u := a.u) h hu7)
                have HTR := hide (fun w z (o : Bo W w g b dl vI vC z x) => brtrim_any (u := a.u) o hu7 hx3)
                have HL2 := hide (show (trimL x a.u).k.length ≤ k + 1 from Nat.le_trans (trim_len _ _) (by have := HL.out; omega))
                generalize trimL x a.u = x' at HTP HTR HL2
                go_wp2_with (first
                  | ((with_reducible refine wpList_load_de hu7 ?_ ?_ HB.out.ga.upto ?_); rfl; rfl)
                  | (go_at_call 11; (with_reducible refine (HTP.out _ HB.out.bo.rl.pg).mono ?_); rintro e w6 ⟨rfl, hp, hk⟩; replace HB := hide (HB.out.ptrim hp hk); clear hp hk)
                  | (go_at_call 14; (with_reducible refine (HTR.out _ _ HB.out.bo).mono ?_); rintro e w7 ⟨rfl, vI', vC', ho⟩; have HB2 := hide ho; clear ho))
                go_meet
                exact ⟨x', vI', vC', HL2, HB2⟩
              · have hk3 : (a.k == (3 : Int)) = false := by simpa using hk3'
                go_wp2
                go_meet
                exact ⟨x, vI, vC, hide (by have := HL.out; omega), hide HB.out.bo⟩
        case rest =>
          clear HB
          obtain ⟨x', vI', vC', HL', HB⟩ := hcut
          go_wp2_with (first
            | (go_at_call 15; (with_reducible refine (balike_any HB.out (by have := HL'.out; omega)).mono ?_); rintro e w9 ⟨rfl, hb⟩; replace HB := hide (HB.out.below hb); clear hb))
          go_roundw
          case rel => exact ⟨k + 1, x', vI', vC', by omega, by omega, by go_num, HL', HB⟩
          case measure => simp [intOf]; omega
    · have hend : ¬ ((k : Int) < (n : Int) ∧ (k : Int) < 60) := by omega
      by_cases h1 : (k : Int) < (n : Int)
      · have h2 : ¬ (k : Int) < 60 := fun h => hend ⟨h1, h⟩
        clear hend
        go_wp2_with (go_at_call 3; (with_reducible refine (runs_any _).mono ?_); rintro e w3 ⟨rfl, hb⟩; replace HB := hide (HB.out.below hb); clear hb)
        go_ret
        exact ⟨rfl, HB.out.rl.low⟩
      · clear hend
        go_wp2_with (go_at_call 3; (with_reducible refine (runs_any _).mono ?_); rintro e w3 ⟨rfl, hb⟩; replace HB := hide (HB.out.below hb); clear hb)
        go_ret
        exact ⟨rfl, HB.out.rl.low⟩
set_option maxRecDepth 100000 in
theorem lifted (os : Os) (started : os.Started) (H : Type) (enc : TypeId × Value → H) :
    ReturnsInHanded {} Try.checked os 4 .any (Rows.logPlaysSpec.pre6 enc Try.prog Try.f4 Rows.logPlaysRow.domain false) (Rows.logPlaysSpec.post enc Try.prog Try.f4 false true false false) := by
  refine returnsInHanded_of_change_sized (C := Try.checked) own started (by kernel_rfl) Try.func4
    (ChangeSpec.witness6 (enc := enc) (C := Try.checked) false ⟨#[], #[.agg #[.int .i64 0, .int .i64 0, .int .i64 0, .int .i64 0, .int .i64 0, .int .i64 0, .int .i64 0], .slice none 0 0], []⟩ 8 (by kernel_rfl) (by kernel_rfl) (by kernel_rfl) (by kernel_rfl)) ?_
  intro W base args ds gs before hval0 hW _ hsz0 _
  have hval : ∀ (j : Nat) t v, Try.f4.params[j]? = some t → args[j]? = some v → Value.okWide Try.prog W .any base t v := hval0
  have hW' := hW
  obtain ⟨p, q, hA0, hV, rfl, _, _⟩ := hW
  have hA : DataW.TrodAll enc Try.prog W 0 (fun _ => true) true Try.f4.params.toList args.toList ds p := hA0
  have hsz : (DataW.weightsEach Try.prog (Try.f4.params.toList ++ Rows.logPlaysSpec.plain.varTypes Try.prog) (ds ++ gs)).all (· ≤ reachBytes) = true := hsz0
  rw [Try.params4] at hA hval hsz
  obtain ⟨v0, vs0, d0, ds0, p0, q0, hargs, rfl, rfl, h0, r0⟩ := trodAll_cons hA
  obtain ⟨v1, vs1, d1, ds1, p1, q1, rfl, rfl, rfl, h1, r1⟩ := trodAll_cons r0
  obtain ⟨rfl, rfl, rfl⟩ := trodAll_nil r1
  obtain rfl : args = #[v0, v1] := by cases args; simp_all
  obtain ⟨rfl, rfl⟩ := trodVars_none hV
  have k0 := h0
  have lt0 : ∀ x ∈ p0, x.block < W.heap.size := by obtain ⟨m, hm⟩ := k0; exact DataW.trod_lt m _ _ _ hm
  obtain ⟨e0x1, e0x2, e0x3, e0x4, e0x5, e0x6, e0x7, rfl, s0⟩ := deps_in (hval 0 25 v0 rfl rfl) h0
  have k1 := h1
  have lt1 : ∀ x ∈ p1, x.block < W.heap.size := by obtain ⟨m, hm⟩ := k1; exact DataW.trod_lt m _ _ _ hm
  obtain ⟨A1, n1, c1, rfl⟩ := okWide_slice Try.underlying44 (hval 1 44 v1 rfl rfl)
  obtain ⟨z1, s1⟩ := gasks_in (j := 1) h1 hsz rfl rfl
  clear hA0 hval0
  refine (walk e0x1 e0x2 e0x3 e0x4 e0x5 e0x6 e0x7 A1 n1 c1 z1 W s0 s1).mono fun e W' ⟨he, bel⟩ => ?_
  subst he
  exact ⟨_, rfl, _, _, _, [], _, [], hW', trodAll_mk1 (shut_bool Try.underlying4 _), (trodAll_cons_mk (Below.trod laidOut (by kernel_rfl) (of_decide_eq_true (by kernel_rfl)) k0 bel lt0) (trodAll_cons_mk (Below.trod laidOut (by kernel_rfl) (of_decide_eq_true (by kernel_rfl)) k1 bel lt1) trodAll_mk0)), rfl, bel.frame _, fun h => by cases h⟩
theorem over : Rows.logPlaysRow.holds Try.pinned (OpenSpec.ofChange Rows.logPlaysSpec) :=
  OpenClaim.holds_of_wide 4 Try.f4 rfl rfl rfl rfl rfl rfl rfl ⟨rfl, rfl, rfl, rfl, rfl⟩ rfl rfl rfl rfl rfl (by kernel_rfl) Try.func4 (by kernel_rfl)
    (of_decide_eq_true (by kernel_rfl)) (by unfold Func.isWrapper; first | (rw [if_pos (by decide +kernel)]; kernel_rfl) | (rw [if_neg (by decide +kernel)]; exact ⟨rfl, rfl⟩))
    (fun os started H enc _ => lifted os started H enc)
theorem proved : Rows.LogPlaysSaid := over
end Go.Proofs.Ytiaegloipnhhdaa.logPlays
