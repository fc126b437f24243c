/- The program's Pre. Conditions: the replies lie in memory, all attributes are eight numbers. -/
import Derived.Test.YtjkdccokiaejhaaQk
import Derived.LoopTactic
namespace Go.Proofs.Ytjkdccokiaejhaa
set_option maxRecDepth 100000
open Go.RowKit
theorem its_els {w : World} {A : Option Addr} {zs : List (List Int)} (h : Its 8 w A zs) (a8 : All 8 zs) : Els 8 w A (atV zs) := fun hn => by
  obtain ⟨b, off, hA, hb, hc⟩ := h (by rw [atV_len] at hn; exact hn)
  refine ⟨b, off, hA, hb, fun k v hk i hi => ?_⟩
  unfold atV at hk
  rw [List.getElem?_map] at hk
  cases hx : zs[k]? with
  | none => rw [hx] at hk; cases hk
  | some x =>
    rw [hx] at hk
    cases hk
    rw [hc k x hx i hi, cellsR_at x (by rw [a8.at_ hx]; exact hi)]
theorem els_its {w : World} {A : Option Addr} {zs : List (List Int)} (h : Els 8 w A (atV zs)) (a8 : All 8 zs) : Its 8 w A zs := fun hn => by
  obtain ⟨b, off, hA, hb, hc⟩ := h (by rw [atV_len]; exact hn)
  refine ⟨b, off, hA, hb, fun k x hk i hi => ?_⟩
  rw [hc k (cellsR x) (by unfold atV; rw [List.getElem?_map, hk]; rfl) i hi, cellsR_at x (by rw [a8.at_ hk]; exact hi)]
theorem els_one8 {w : World} {g : Nat} {t : TypeId} {x : List Int} (R : Row w g t (cA x)) (h : x.length = 8) : Els 8 w (some ⟨g, 0, none⟩) (atV [x]) :=
  els_row R (atV_all (l := [x]) fun y hy => by rw [List.mem_singleton.1 hy]; exact h) (by show cellsR x = cellsV [cellsR x]; simp [cellsV])
theorem kept_two (w : World) (o p : Obj) : Below w.heap.size w ((w.alloc o).alloc p) := kept_alloc (kept_alloc (kept_refl w) o) p
/-- Own and the replies, put together. -/
theorem concat_two {w : World} {own : List Int} {A : Option Addr} {m c g g1 : Nat} {zs : List (List Int)} (h8 : own.length = 8) (hm : zs.length = m) (a8 : All 8 zs) (hz : Its 8 w A zs) (hn : A = none → c = 0) (hl : m ≤ 1000)
    (R1 : Row w g1 26 (cA own)) (R2 : Row w g 45 #[.slice (some ⟨g1, 0, none⟩) 1 1, .slice A m c]) :
    Calls Try.prog 39 #[.slice (some ⟨g, 0, none⟩) 2 2] w fun e w' => (∃ B d, e = .returned (.slice B (m + 1) d) ∧ m + 1 ≤ d ∧ d ≤ 9223372036854775807 ∧ Its 8 w' B (own :: zs)) ∧ Below w.heap.size w w' := by
  have ha : All 8 (own :: zs) := a8.cons_ h8
  have e1 : catP [⟨some ⟨g1, 0, none⟩, 1, 1, [own]⟩, ⟨A, m, c, zs⟩] 2 = own :: zs := by simp [catP]
  have h := concat_any g 2 [⟨some ⟨g1, 0, none⟩, 1, 1, [own]⟩, ⟨A, m, c, zs⟩] w rfl (by omega) (fun k s hs => by
    match k, hs with
    | 0, hs => cases hs; exact ⟨rfl, (fun h => by cases h), els_one8 R1 h8, (fun y hy => by rw [List.mem_singleton.1 hy]; exact h8)⟩
    | 1, hs => cases hs; exact ⟨hm, hn, its_els hz a8, a8⟩
    | k + 2, hs => simp at hs) (fun k s hs => by
    match k, hs with
    | 0, hs => cases hs; exact R2.cell 0
    | 1, hs => cases hs; exact R2.cell 1
    | k + 2, hs => simp at hs) R2.lt (by rw [e1, List.length_cons, hm]; omega)
  rw [e1] at h
  refine h.mono ?_
  rintro e w' ⟨v, rfl, hv, hb⟩
  refine ⟨?_, hb⟩
  unfold Mine8 at hv
  obtain ⟨B, d, rfl, h1, h2, h3, _⟩ := els_own_form hv
  rw [List.length_cons, hm] at h2
  refine ⟨B, d, by rw [List.length_cons, hm], h2, ?_, els_its (els_own hv (atV_all ha) (by decide)).1 ha⟩
  unfold maxLen at h3
  omega
theorem lit_at {x : List Int} (h : x.length = 8) (w : World) : (Instr.buildSlice 45 1 #[(0, .agg (cA x))]).run Try.prog w = .ok (.slice (some ⟨w.heap.size, 0, none⟩) 1 1) (w.alloc (.cells (cA x) 26)) := by
  obtain ⟨a0, a1, a2, a3, a4, a5, a6, a7, rfl⟩ := len8 h
  have u9 := Try.underlying45
  have z9 := Try.sizeOf26
  show (Instr.buildSlice 45 1 #[(0, .agg #[.int .i64 a0, .int .i64 a1, .int .i64 a2, .int .i64 a3, .int .i64 a4, .int .i64 a5, .int .i64 a6, .int .i64 a7])]).run Try.prog w = .ok (.slice (some ⟨w.heap.size, 0, none⟩) 1 1) (w.alloc (.cells #[.int .i64 a0, .int .i64 a1, .int .i64 a2, .int .i64 a3, .int .i64 a4, .int .i64 a5, .int .i64 a6, .int .i64 a7] 26))
  go_simp
section
variable {ops : Array Oper} {rest : List Oper} {d : Option Tmp} {ty : TypeId} {ps : String} {af : Array Edge} {a : Act} {w : World} {Q : Exit → Act → World → Prop} {u : Operand} {x : List Int}
theorem wpList_lit_at (h8 : x.length = 8) (hu : a.eval u = .agg (cA x)) (h : wpList Try.prog ops Q rest (a.put d (.slice (some ⟨w.heap.size, 0, none⟩) 1 1)) (w.alloc (.cells (cA x) 26))) :
    wpList Try.prog ops Q ({ dst := d, op := .buildSlice 45 1 #[(0, u)], type := ty, pos := ps, after := af, guard := none } :: rest) a w :=
  wpList_plain rfl fun K hK => by
    unfold Oper.wp execOp
    simp only [List.map_toArray, List.map_cons, List.map_nil, hu, Sem.run_bind, Sem.run_pure, Result.andThen_ok, lit_at h8 w]
    exact hK _ _ h
end
theorem Prz.drew {W w : World} {own : List Int} (h : Prz W w own) : Prz W w.drew own := h.kept (kept_drewN (kept_refl w) 1)
set_option maxHeartbeats 8000000 in
theorem pre_ok : PreOk := by
  intro n first late own A m c zs w hn h8 hm a8 hz hl hmc hnil
  have HCN := hide (fun w' (h : Its 8 w' A zs) => count_any (c := c) h8 hm a8 h hl)
  have HSL := hide (fun w => pslow_any n (by omega) w)
  have HFA := hide (fun w => pfast_any n (by omega) w)
  obtain ⟨P, hP⟩ : ∃ P, preL n first own zs late = P := ⟨_, rfl⟩
  have HPL := hide hP
  rw [hP]
  have HZ := hide hz
  have HCO : Hid (∀ wr : World, Prz w wr own → Calls Try.prog 39 #[.slice (some ⟨wr.heap.size + 1, 0, none⟩) 2 2] ((wr.alloc (.cells (cA own) 26)).alloc (.cells #[.slice (some ⟨wr.heap.size, 0, none⟩) 1 1, .slice A m c] 45)) fun e w' => (∃ B d, e = .returned (.slice B (m + 1) d) ∧ m + 1 ≤ d ∧ d ≤ 9223372036854775807 ∧ Its 8 w' B (own :: zs)) ∧ Below ((wr.alloc (.cells (cA own) 26)).alloc (.cells #[.slice (some ⟨wr.heap.size, 0, none⟩) 1 1, .slice A m c] 45)).heap.size ((wr.alloc (.cells (cA own) 26)).alloc (.cells #[.slice (some ⟨wr.heap.size, 0, none⟩) 1 1, .slice A m c] 45)) w') := hide (fun wr hp => by
    have hR := Row.new (wr.alloc (.cells (cA own) 26)) 45 #[.slice (some ⟨wr.heap.size, 0, none⟩) 1 1, .slice A m c]
    rw [show (wr.alloc (.cells (cA own) 26)).heap.size = wr.heap.size + 1 by simp] at hR
    exact concat_two h8 hm a8 (HZ.out.below (kept_trans hp.low (kept_two _ _ _))) hnil hl ((Row.new wr 26 (cA own)).alloc _) hR)
  have HJN := hide (fun B d (wr : World) (h : Its 8 wr B (own :: zs)) (h1 : m + 1 ≤ d) (h2 : d ≤ 9223372036854775807) => (show Calls Try.prog 38 #[.slice B (m + 1) d] wr fun e w' => e = .returned (.agg (cA (allA own zs))) ∧ Below wr.heap.size wr w' from join_any B (m + 1) d (own :: zs) wr (by rw [List.length_cons, hm]) (a8.cons_ h8) h h1 h2))
  have HP0 := hide (show Prz w ((w.alloc (.cells (cA own) 26)).alloc (.cells #[.int .i64 0, .int .i64 0, .int .i64 0, .int .i64 0, .int .i64 0, .int .i64 0, .int .i64 0, .int .i64 0] 26)) own from Prz.start w own)
  have hy8 := allA_len h8 zs
  have hsl : sameN own zs ≤ m := by have := sameN_le own zs; rw [hm] at this; exact this
  unfold preL at HPL
  rw [hm] at HPL
  generalize sameN own zs = sn at HPL hsl HCN
  obtain ⟨S, hS⟩ : ∃ S, n / 2 + 1 = S := ⟨_, rfl⟩
  rw [hS] at HSL
  have hS1 : 1 ≤ S := by omega
  have hS2 : S ≤ 1000 := by omega
  clear hz a8 hm hP hnil
  go_enter Try.func23, Try.ntmps23
  go_upto_region 1 with (fail)
  generalize (w.alloc (.cells (cA own) 26)).alloc (.cells #[.int .i64 0, .int .i64 0, .int .i64 0, .int .i64 0, .int .i64 0, .int .i64 0, .int .i64 0, .int .i64 0] 26) = w1 at HP0 ⊢
  go_upto_region 2 with (first
    | ((with_reducible refine wpList_load_at h8 ?_ ?_ HP0.out.o.at8 ?_); rfl; rfl)
    | (go_at_call 37; (with_reducible refine (HCN.out _ (HZ.out.below HP0.out.low)).mono ?_); rintro e w2 ⟨rfl, hb⟩; have HP := hide (HP0.out.kept hb); clear hb))
  clear HP0 HCN
  cases first
  · by_cases hf : n ≤ sn + 2
    · by_cases h2 : n / 2 ≤ m
      · cases late
        · by_cases h3 : sn + 2 ≤ m
          · skip
            have hfi : ((n : Int) - 1 - 1 ≤ (sn : Int)) := by omega
            have h2i : ((S : Int) - 1 ≤ (m : Int)) := by omega
            have h3i : ((2 : Int) ≤ (m : Int) - (sn : Int)) := by omega
            replace HPL := hide (show ((2 : Int), allA own zs) = P from by have h := HPL.out; rw [if_neg (by simp <;> omega), if_pos (by simp <;> omega)] at h; exact h)
            clear hf h2 h3 hS
            go_wp2_with (first
        | (go_at_call 20; (with_reducible refine (HFA.out _).mono ?_); rintro e w7 ⟨rfl, hw⟩; subst hw)
        | (go_at_call 18; (with_reducible refine (HSL.out _).mono ?_); rintro e w7 ⟨rfl, hw⟩; subst hw)
        | ((with_reducible refine wpList_load_at h8 ?_ ?_ HP.out.o.at8 ?_); rfl; rfl)
        | ((with_reducible refine wpList_lit_at h8 ?_ ?_); rfl; try dsimp only [Act.put])
        | (go_at_call 39; go_loud ((with_reducible refine (HCO.out _ HP.out).mono ?_); rintro e w8 ⟨⟨B, d, rfl, hd1, hd2, hits⟩, hb⟩; replace HP := hide (HP.out.kept (kept_trans (kept_two _ _ _) hb)); have HI := hide hits; clear hits hb))
        | (go_at_call 38; go_loud ((with_reducible refine (HJN.out _ _ _ HI.out hd1 hd2).mono ?_); rintro e w9 ⟨rfl, hb⟩; replace HP := hide (HP.out.kept hb); clear hb HI))
        | ((with_reducible refine wpList_store_at (y := allA own zs) (z := zero8) hy8 ?_ ?_ HP.out.r rfl ?_); rfl; rfl; intro w6 hn hg; have HN := hide hn; have HB := hide (HP.out.put hg); clear hn hg))
            exact bodyPost_ret (results_pre Try.results23 rfl rfl HN.out hy8) rfl ⟨by rw [← HPL.out]; rfl, HB.out⟩
          · skip
            have hfi : ((n : Int) - 1 - 1 ≤ (sn : Int)) := by omega
            have h2i : ((S : Int) - 1 ≤ (m : Int)) := by omega
            have h3i : ¬ ((2 : Int) ≤ (m : Int) - (sn : Int)) := by omega
            replace HPL := hide (show ((2 : Int), allA own zs) = P from by have h := HPL.out; rw [if_neg (by simp <;> omega), if_pos (by simp <;> omega)] at h; exact h)
            clear hf h2 h3 hS
            go_wp2_with (first
        | (go_at_call 20; (with_reducible refine (HFA.out _).mono ?_); rintro e w7 ⟨rfl, hw⟩; subst hw)
        | (go_at_call 18; (with_reducible refine (HSL.out _).mono ?_); rintro e w7 ⟨rfl, hw⟩; subst hw)
        | ((with_reducible refine wpList_load_at h8 ?_ ?_ HP.out.o.at8 ?_); rfl; rfl)
        | ((with_reducible refine wpList_lit_at h8 ?_ ?_); rfl; try dsimp only [Act.put])
        | (go_at_call 39; go_loud ((with_reducible refine (HCO.out _ HP.out).mono ?_); rintro e w8 ⟨⟨B, d, rfl, hd1, hd2, hits⟩, hb⟩; replace HP := hide (HP.out.kept (kept_trans (kept_two _ _ _) hb)); have HI := hide hits; clear hits hb))
        | (go_at_call 38; go_loud ((with_reducible refine (HJN.out _ _ _ HI.out hd1 hd2).mono ?_); rintro e w9 ⟨rfl, hb⟩; replace HP := hide (HP.out.kept hb); clear hb HI))
        | ((with_reducible refine wpList_store_at (y := allA own zs) (z := zero8) hy8 ?_ ?_ HP.out.r rfl ?_); rfl; rfl; intro w6 hn hg; have HN := hide hn; have HB := hide (HP.out.put hg); clear hn hg))
            exact bodyPost_ret (results_pre Try.results23 rfl rfl HN.out hy8) rfl ⟨by rw [← HPL.out]; rfl, HB.out⟩
        · by_cases h3 : sn + 2 ≤ m
          · skip
            have hfi : ((n : Int) - 1 - 1 ≤ (sn : Int)) := by omega
            have h2i : ((S : Int) - 1 ≤ (m : Int)) := by omega
            have h3i : ((2 : Int) ≤ (m : Int) - (sn : Int)) := by omega
            replace HPL := hide (show ((2 : Int), allA own zs) = P from by have h := HPL.out; rw [if_neg (by simp <;> omega), if_pos (by simp <;> omega)] at h; exact h)
            clear hf h2 h3 hS
            go_wp2_with (first
        | (go_at_call 20; (with_reducible refine (HFA.out _).mono ?_); rintro e w7 ⟨rfl, hw⟩; subst hw)
        | (go_at_call 18; (with_reducible refine (HSL.out _).mono ?_); rintro e w7 ⟨rfl, hw⟩; subst hw)
        | ((with_reducible refine wpList_load_at h8 ?_ ?_ HP.out.o.at8 ?_); rfl; rfl)
        | ((with_reducible refine wpList_lit_at h8 ?_ ?_); rfl; try dsimp only [Act.put])
        | (go_at_call 39; go_loud ((with_reducible refine (HCO.out _ HP.out).mono ?_); rintro e w8 ⟨⟨B, d, rfl, hd1, hd2, hits⟩, hb⟩; replace HP := hide (HP.out.kept (kept_trans (kept_two _ _ _) hb)); have HI := hide hits; clear hits hb))
        | (go_at_call 38; go_loud ((with_reducible refine (HJN.out _ _ _ HI.out hd1 hd2).mono ?_); rintro e w9 ⟨rfl, hb⟩; replace HP := hide (HP.out.kept hb); clear hb HI))
        | ((with_reducible refine wpList_store_at (y := allA own zs) (z := zero8) hy8 ?_ ?_ HP.out.r rfl ?_); rfl; rfl; intro w6 hn hg; have HN := hide hn; have HB := hide (HP.out.put hg); clear hn hg))
            exact bodyPost_ret (results_pre Try.results23 rfl rfl HN.out hy8) rfl ⟨by rw [← HPL.out]; rfl, HB.out⟩
          · skip
            have hfi : ((n : Int) - 1 - 1 ≤ (sn : Int)) := by omega
            have h2i : ((S : Int) - 1 ≤ (m : Int)) := by omega
            have h3i : ¬ ((2 : Int) ≤ (m : Int) - (sn : Int)) := by omega
            replace HPL := hide (show ((2 : Int), allA own zs) = P from by have h := HPL.out; rw [if_neg (by simp <;> omega), if_pos (by simp <;> omega)] at h; exact h)
            clear hf h2 h3 hS
            go_wp2_with (first
        | (go_at_call 20; (with_reducible refine (HFA.out _).mono ?_); rintro e w7 ⟨rfl, hw⟩; subst hw)
        | (go_at_call 18; (with_reducible refine (HSL.out _).mono ?_); rintro e w7 ⟨rfl, hw⟩; subst hw)
        | ((with_reducible refine wpList_load_at h8 ?_ ?_ HP.out.o.at8 ?_); rfl; rfl)
        | ((with_reducible refine wpList_lit_at h8 ?_ ?_); rfl; try dsimp only [Act.put])
        | (go_at_call 39; go_loud ((with_reducible refine (HCO.out _ HP.out).mono ?_); rintro e w8 ⟨⟨B, d, rfl, hd1, hd2, hits⟩, hb⟩; replace HP := hide (HP.out.kept (kept_trans (kept_two _ _ _) hb)); have HI := hide hits; clear hits hb))
        | (go_at_call 38; go_loud ((with_reducible refine (HJN.out _ _ _ HI.out hd1 hd2).mono ?_); rintro e w9 ⟨rfl, hb⟩; replace HP := hide (HP.out.kept hb); clear hb HI))
        | ((with_reducible refine wpList_store_at (y := allA own zs) (z := zero8) hy8 ?_ ?_ HP.out.r rfl ?_); rfl; rfl; intro w6 hn hg; have HN := hide hn; have HB := hide (HP.out.put hg); clear hn hg))
            exact bodyPost_ret (results_pre Try.results23 rfl rfl HN.out hy8) rfl ⟨by rw [← HPL.out]; rfl, HB.out⟩
      · cases late
        · by_cases h3 : sn + 2 ≤ m
          · skip
            have hfi : ((n : Int) - 1 - 1 ≤ (sn : Int)) := by omega
            have h2i : ¬ ((S : Int) - 1 ≤ (m : Int)) := by omega
            have h3i : ((2 : Int) ≤ (m : Int) - (sn : Int)) := by omega
            replace HPL := hide (show ((0 : Int), zero8) = P from by have h := HPL.out; rw [if_neg (by simp <;> omega), if_neg (by simp <;> omega)] at h; exact h)
            clear hf h2 h3 hS
            go_wp2_with (first
        | (go_at_call 20; (with_reducible refine (HFA.out _).mono ?_); rintro e w7 ⟨rfl, hw⟩; subst hw)
        | (go_at_call 18; (with_reducible refine (HSL.out _).mono ?_); rintro e w7 ⟨rfl, hw⟩; subst hw)
        | ((with_reducible refine wpList_store_at (y := zero8) (z := zero8) rfl ?_ ?_ HP.out.r rfl ?_); rfl; rfl; intro w6 hn hg; have HN := hide hn; have HB := hide (HP.out.put hg); clear hn hg))
            exact bodyPost_ret (results_pre Try.results23 rfl rfl HN.out rfl) rfl ⟨by rw [← HPL.out]; rfl, HB.out⟩
          · skip
            have hfi : ((n : Int) - 1 - 1 ≤ (sn : Int)) := by omega
            have h2i : ¬ ((S : Int) - 1 ≤ (m : Int)) := by omega
            have h3i : ¬ ((2 : Int) ≤ (m : Int) - (sn : Int)) := by omega
            replace HPL := hide (show ((0 : Int), zero8) = P from by have h := HPL.out; rw [if_neg (by simp <;> omega), if_neg (by simp <;> omega)] at h; exact h)
            clear hf h2 h3 hS
            go_wp2_with (first
        | (go_at_call 20; (with_reducible refine (HFA.out _).mono ?_); rintro e w7 ⟨rfl, hw⟩; subst hw)
        | (go_at_call 18; (with_reducible refine (HSL.out _).mono ?_); rintro e w7 ⟨rfl, hw⟩; subst hw)
        | ((with_reducible refine wpList_store_at (y := zero8) (z := zero8) rfl ?_ ?_ HP.out.r rfl ?_); rfl; rfl; intro w6 hn hg; have HN := hide hn; have HB := hide (HP.out.put hg); clear hn hg))
            exact bodyPost_ret (results_pre Try.results23 rfl rfl HN.out rfl) rfl ⟨by rw [← HPL.out]; rfl, HB.out⟩
        · by_cases h3 : sn + 2 ≤ m
          · skip
            have hfi : ((n : Int) - 1 - 1 ≤ (sn : Int)) := by omega
            have h2i : ¬ ((S : Int) - 1 ≤ (m : Int)) := by omega
            have h3i : ((2 : Int) ≤ (m : Int) - (sn : Int)) := by omega
            replace HPL := hide (show ((0 : Int), zero8) = P from by have h := HPL.out; rw [if_neg (by simp <;> omega), if_neg (by simp <;> omega)] at h; exact h)
            clear hf h2 h3 hS
            go_wp2_with (first
        | (go_at_call 20; (with_reducible refine (HFA.out _).mono ?_); rintro e w7 ⟨rfl, hw⟩; subst hw)
        | (go_at_call 18; (with_reducible refine (HSL.out _).mono ?_); rintro e w7 ⟨rfl, hw⟩; subst hw)
        | ((with_reducible refine wpList_store_at (y := zero8) (z := zero8) rfl ?_ ?_ HP.out.r rfl ?_); rfl; rfl; intro w6 hn hg; have HN := hide hn; have HB := hide (HP.out.put hg); clear hn hg))
            exact bodyPost_ret (results_pre Try.results23 rfl rfl HN.out rfl) rfl ⟨by rw [← HPL.out]; rfl, HB.out⟩
          · skip
            have hfi : ((n : Int) - 1 - 1 ≤ (sn : Int)) := by omega
            have h2i : ¬ ((S : Int) - 1 ≤ (m : Int)) := by omega
            have h3i : ¬ ((2 : Int) ≤ (m : Int) - (sn : Int)) := by omega
            replace HPL := hide (show ((0 : Int), zero8) = P from by have h := HPL.out; rw [if_neg (by simp <;> omega), if_neg (by simp <;> omega)] at h; exact h)
            clear hf h2 h3 hS
            go_wp2_with (first
        | (go_at_call 20; (with_reducible refine (HFA.out _).mono ?_); rintro e w7 ⟨rfl, hw⟩; subst hw)
        | (go_at_call 18; (with_reducible refine (HSL.out _).mono ?_); rintro e w7 ⟨rfl, hw⟩; subst hw)
        | ((with_reducible refine wpList_store_at (y := zero8) (z := zero8) rfl ?_ ?_ HP.out.r rfl ?_); rfl; rfl; intro w6 hn hg; have HN := hide hn; have HB := hide (HP.out.put hg); clear hn hg))
            exact bodyPost_ret (results_pre Try.results23 rfl rfl HN.out rfl) rfl ⟨by rw [← HPL.out]; rfl, HB.out⟩
    · by_cases h2 : n / 2 ≤ m
      · cases late
        · by_cases h3 : sn + 2 ≤ m
          · skip
            have hfi : ¬ ((n : Int) - 1 - 1 ≤ (sn : Int)) := by omega
            have h2i : ((S : Int) - 1 ≤ (m : Int)) := by omega
            have h3i : ((2 : Int) ≤ (m : Int) - (sn : Int)) := by omega
            replace HPL := hide (show ((2 : Int), allA own zs) = P from by have h := HPL.out; rw [if_neg (by simp <;> omega), if_pos (by simp <;> omega)] at h; exact h)
            clear hf h2 h3 hS
            go_wp2_with (first
        | (go_at_call 20; (with_reducible refine (HFA.out _).mono ?_); rintro e w7 ⟨rfl, hw⟩; subst hw)
        | (go_at_call 18; (with_reducible refine (HSL.out _).mono ?_); rintro e w7 ⟨rfl, hw⟩; subst hw)
        | ((with_reducible refine wpList_load_at h8 ?_ ?_ HP.out.o.at8 ?_); rfl; rfl)
        | ((with_reducible refine wpList_lit_at h8 ?_ ?_); rfl; try dsimp only [Act.put])
        | (go_at_call 39; go_loud ((with_reducible refine (HCO.out _ HP.out).mono ?_); rintro e w8 ⟨⟨B, d, rfl, hd1, hd2, hits⟩, hb⟩; replace HP := hide (HP.out.kept (kept_trans (kept_two _ _ _) hb)); have HI := hide hits; clear hits hb))
        | (go_at_call 38; go_loud ((with_reducible refine (HJN.out _ _ _ HI.out hd1 hd2).mono ?_); rintro e w9 ⟨rfl, hb⟩; replace HP := hide (HP.out.kept hb); clear hb HI))
        | ((with_reducible refine wpList_store_at (y := allA own zs) (z := zero8) hy8 ?_ ?_ HP.out.r rfl ?_); rfl; rfl; intro w6 hn hg; have HN := hide hn; have HB := hide (HP.out.put hg); clear hn hg))
            exact bodyPost_ret (results_pre Try.results23 rfl rfl HN.out hy8) rfl ⟨by rw [← HPL.out]; rfl, HB.out⟩
          · skip
            have hfi : ¬ ((n : Int) - 1 - 1 ≤ (sn : Int)) := by omega
            have h2i : ((S : Int) - 1 ≤ (m : Int)) := by omega
            have h3i : ¬ ((2 : Int) ≤ (m : Int) - (sn : Int)) := by omega
            replace HPL := hide (show ((2 : Int), allA own zs) = P from by have h := HPL.out; rw [if_neg (by simp <;> omega), if_pos (by simp <;> omega)] at h; exact h)
            clear hf h2 h3 hS
            go_wp2_with (first
        | (go_at_call 20; (with_reducible refine (HFA.out _).mono ?_); rintro e w7 ⟨rfl, hw⟩; subst hw)
        | (go_at_call 18; (with_reducible refine (HSL.out _).mono ?_); rintro e w7 ⟨rfl, hw⟩; subst hw)
        | ((with_reducible refine wpList_load_at h8 ?_ ?_ HP.out.o.at8 ?_); rfl; rfl)
        | ((with_reducible refine wpList_lit_at h8 ?_ ?_); rfl; try dsimp only [Act.put])
        | (go_at_call 39; go_loud ((with_reducible refine (HCO.out _ HP.out).mono ?_); rintro e w8 ⟨⟨B, d, rfl, hd1, hd2, hits⟩, hb⟩; replace HP := hide (HP.out.kept (kept_trans (kept_two _ _ _) hb)); have HI := hide hits; clear hits hb))
        | (go_at_call 38; go_loud ((with_reducible refine (HJN.out _ _ _ HI.out hd1 hd2).mono ?_); rintro e w9 ⟨rfl, hb⟩; replace HP := hide (HP.out.kept hb); clear hb HI))
        | ((with_reducible refine wpList_store_at (y := allA own zs) (z := zero8) hy8 ?_ ?_ HP.out.r rfl ?_); rfl; rfl; intro w6 hn hg; have HN := hide hn; have HB := hide (HP.out.put hg); clear hn hg))
            exact bodyPost_ret (results_pre Try.results23 rfl rfl HN.out hy8) rfl ⟨by rw [← HPL.out]; rfl, HB.out⟩
        · by_cases h3 : sn + 2 ≤ m
          · skip
            have hfi : ¬ ((n : Int) - 1 - 1 ≤ (sn : Int)) := by omega
            have h2i : ((S : Int) - 1 ≤ (m : Int)) := by omega
            have h3i : ((2 : Int) ≤ (m : Int) - (sn : Int)) := by omega
            replace HPL := hide (show ((2 : Int), allA own zs) = P from by have h := HPL.out; rw [if_neg (by simp <;> omega), if_pos (by simp <;> omega)] at h; exact h)
            clear hf h2 h3 hS
            go_wp2_with (first
        | (go_at_call 20; (with_reducible refine (HFA.out _).mono ?_); rintro e w7 ⟨rfl, hw⟩; subst hw)
        | (go_at_call 18; (with_reducible refine (HSL.out _).mono ?_); rintro e w7 ⟨rfl, hw⟩; subst hw)
        | ((with_reducible refine wpList_load_at h8 ?_ ?_ HP.out.o.at8 ?_); rfl; rfl)
        | ((with_reducible refine wpList_lit_at h8 ?_ ?_); rfl; try dsimp only [Act.put])
        | (go_at_call 39; go_loud ((with_reducible refine (HCO.out _ HP.out).mono ?_); rintro e w8 ⟨⟨B, d, rfl, hd1, hd2, hits⟩, hb⟩; replace HP := hide (HP.out.kept (kept_trans (kept_two _ _ _) hb)); have HI := hide hits; clear hits hb))
        | (go_at_call 38; go_loud ((with_reducible refine (HJN.out _ _ _ HI.out hd1 hd2).mono ?_); rintro e w9 ⟨rfl, hb⟩; replace HP := hide (HP.out.kept hb); clear hb HI))
        | ((with_reducible refine wpList_store_at (y := allA own zs) (z := zero8) hy8 ?_ ?_ HP.out.r rfl ?_); rfl; rfl; intro w6 hn hg; have HN := hide hn; have HB := hide (HP.out.put hg); clear hn hg))
            exact bodyPost_ret (results_pre Try.results23 rfl rfl HN.out hy8) rfl ⟨by rw [← HPL.out]; rfl, HB.out⟩
          · skip
            have hfi : ¬ ((n : Int) - 1 - 1 ≤ (sn : Int)) := by omega
            have h2i : ((S : Int) - 1 ≤ (m : Int)) := by omega
            have h3i : ¬ ((2 : Int) ≤ (m : Int) - (sn : Int)) := by omega
            replace HPL := hide (show ((2 : Int), allA own zs) = P from by have h := HPL.out; rw [if_neg (by simp <;> omega), if_pos (by simp <;> omega)] at h; exact h)
            clear hf h2 h3 hS
            go_wp2_with (first
        | (go_at_call 20; (with_reducible refine (HFA.out _).mono ?_); rintro e w7 ⟨rfl, hw⟩; subst hw)
        | (go_at_call 18; (with_reducible refine (HSL.out _).mono ?_); rintro e w7 ⟨rfl, hw⟩; subst hw)
        | ((with_reducible refine wpList_load_at h8 ?_ ?_ HP.out.o.at8 ?_); rfl; rfl)
        | ((with_reducible refine wpList_lit_at h8 ?_ ?_); rfl; try dsimp only [Act.put])
        | (go_at_call 39; go_loud ((with_reducible refine (HCO.out _ HP.out).mono ?_); rintro e w8 ⟨⟨B, d, rfl, hd1, hd2, hits⟩, hb⟩; replace HP := hide (HP.out.kept (kept_trans (kept_two _ _ _) hb)); have HI := hide hits; clear hits hb))
        | (go_at_call 38; go_loud ((with_reducible refine (HJN.out _ _ _ HI.out hd1 hd2).mono ?_); rintro e w9 ⟨rfl, hb⟩; replace HP := hide (HP.out.kept hb); clear hb HI))
        | ((with_reducible refine wpList_store_at (y := allA own zs) (z := zero8) hy8 ?_ ?_ HP.out.r rfl ?_); rfl; rfl; intro w6 hn hg; have HN := hide hn; have HB := hide (HP.out.put hg); clear hn hg))
            exact bodyPost_ret (results_pre Try.results23 rfl rfl HN.out hy8) rfl ⟨by rw [← HPL.out]; rfl, HB.out⟩
      · cases late
        · by_cases h3 : sn + 2 ≤ m
          · skip
            have hfi : ¬ ((n : Int) - 1 - 1 ≤ (sn : Int)) := by omega
            have h2i : ¬ ((S : Int) - 1 ≤ (m : Int)) := by omega
            have h3i : ((2 : Int) ≤ (m : Int) - (sn : Int)) := by omega
            replace HPL := hide (show ((0 : Int), zero8) = P from by have h := HPL.out; rw [if_neg (by simp <;> omega), if_neg (by simp <;> omega)] at h; exact h)
            clear hf h2 h3 hS
            go_wp2_with (first
        | (go_at_call 20; (with_reducible refine (HFA.out _).mono ?_); rintro e w7 ⟨rfl, hw⟩; subst hw)
        | (go_at_call 18; (with_reducible refine (HSL.out _).mono ?_); rintro e w7 ⟨rfl, hw⟩; subst hw)
        | ((with_reducible refine wpList_store_at (y := zero8) (z := zero8) rfl ?_ ?_ HP.out.r rfl ?_); rfl; rfl; intro w6 hn hg; have HN := hide hn; have HB := hide (HP.out.put hg); clear hn hg))
            exact bodyPost_ret (results_pre Try.results23 rfl rfl HN.out rfl) rfl ⟨by rw [← HPL.out]; rfl, HB.out⟩
          · skip
            have hfi : ¬ ((n : Int) - 1 - 1 ≤ (sn : Int)) := by omega
            have h2i : ¬ ((S : Int) - 1 ≤ (m : Int)) := by omega
            have h3i : ¬ ((2 : Int) ≤ (m : Int) - (sn : Int)) := by omega
            replace HPL := hide (show ((0 : Int), zero8) = P from by have h := HPL.out; rw [if_neg (by simp <;> omega), if_neg (by simp <;> omega)] at h; exact h)
            clear hf h2 h3 hS
            go_wp2_with (first
        | (go_at_call 20; (with_reducible refine (HFA.out _).mono ?_); rintro e w7 ⟨rfl, hw⟩; subst hw)
        | (go_at_call 18; (with_reducible refine (HSL.out _).mono ?_); rintro e w7 ⟨rfl, hw⟩; subst hw)
        | ((with_reducible refine wpList_store_at (y := zero8) (z := zero8) rfl ?_ ?_ HP.out.r rfl ?_); rfl; rfl; intro w6 hn hg; have HN := hide hn; have HB := hide (HP.out.put hg); clear hn hg))
            exact bodyPost_ret (results_pre Try.results23 rfl rfl HN.out rfl) rfl ⟨by rw [← HPL.out]; rfl, HB.out⟩
        · by_cases h3 : sn + 2 ≤ m
          · skip
            have hfi : ¬ ((n : Int) - 1 - 1 ≤ (sn : Int)) := by omega
            have h2i : ¬ ((S : Int) - 1 ≤ (m : Int)) := by omega
            have h3i : ((2 : Int) ≤ (m : Int) - (sn : Int)) := by omega
            replace HPL := hide (show ((0 : Int), zero8) = P from by have h := HPL.out; rw [if_neg (by simp <;> omega), if_neg (by simp <;> omega)] at h; exact h)
            clear hf h2 h3 hS
            go_wp2_with (first
        | (go_at_call 20; (with_reducible refine (HFA.out _).mono ?_); rintro e w7 ⟨rfl, hw⟩; subst hw)
        | (go_at_call 18; (with_reducible refine (HSL.out _).mono ?_); rintro e w7 ⟨rfl, hw⟩; subst hw)
        | ((with_reducible refine wpList_store_at (y := zero8) (z := zero8) rfl ?_ ?_ HP.out.r rfl ?_); rfl; rfl; intro w6 hn hg; have HN := hide hn; have HB := hide (HP.out.put hg); clear hn hg))
            exact bodyPost_ret (results_pre Try.results23 rfl rfl HN.out rfl) rfl ⟨by rw [← HPL.out]; rfl, HB.out⟩
          · skip
            have hfi : ¬ ((n : Int) - 1 - 1 ≤ (sn : Int)) := by omega
            have h2i : ¬ ((S : Int) - 1 ≤ (m : Int)) := by omega
            have h3i : ¬ ((2 : Int) ≤ (m : Int) - (sn : Int)) := by omega
            replace HPL := hide (show ((0 : Int), zero8) = P from by have h := HPL.out; rw [if_neg (by simp <;> omega), if_neg (by simp <;> omega)] at h; exact h)
            clear hf h2 h3 hS
            go_wp2_with (first
        | (go_at_call 20; (with_reducible refine (HFA.out _).mono ?_); rintro e w7 ⟨rfl, hw⟩; subst hw)
        | (go_at_call 18; (with_reducible refine (HSL.out _).mono ?_); rintro e w7 ⟨rfl, hw⟩; subst hw)
        | ((with_reducible refine wpList_store_at (y := zero8) (z := zero8) rfl ?_ ?_ HP.out.r rfl ?_); rfl; rfl; intro w6 hn hg; have HN := hide hn; have HB := hide (HP.out.put hg); clear hn hg))
            exact bodyPost_ret (results_pre Try.results23 rfl rfl HN.out rfl) rfl ⟨by rw [← HPL.out]; rfl, HB.out⟩
  · by_cases hf : n ≤ sn + 2
    · by_cases h2 : n / 2 ≤ m
      · cases late
        · by_cases h3 : sn + 2 ≤ m
          · skip
            have hfi : ((n : Int) - 1 - 1 ≤ (sn : Int)) := by omega
            have h2i : ((S : Int) - 1 ≤ (m : Int)) := by omega
            have h3i : ((2 : Int) ≤ (m : Int) - (sn : Int)) := by omega
            replace HPL := hide (show ((1 : Int), own) = P from by have h := HPL.out; rw [if_pos (by simp <;> omega)] at h; exact h)
            clear hf h2 h3 hS
            go_upto_region 3 with (first
        | (go_at_call 20; (with_reducible refine (HFA.out _).mono ?_); rintro e w7 ⟨rfl, hw⟩; subst hw)
        | (go_at_call 18; (with_reducible refine (HSL.out _).mono ?_); rintro e w7 ⟨rfl, hw⟩; subst hw))
            refine wp_region_noPanic ?_
            refine wp_region_U 2 (fun wz => Prz w wz own) (by kernel_rfl) ?_
            have HD := hide HP.out.drew
            generalize World.drew _ = wd at HD ⊢
            refine anyU_take2 (i := 0) (v := .agg (cA own)) (by simp only [List.getElem?_toArray, List.getElem?_cons_zero]; exact rfl) (by kernel_rfl) 12 (by kernel_rfl) (by kernel_rfl) (fun _ _ _ h => h) (by kernel_rfl) (by kernel_rfl) (by kernel_rfl) (by kernel_rfl) (Or.inl ⟨by rfl, fun w hSw => exec_load_gp rfl rfl (hSw.o.at8) at_under rfl (at_sz h8)⟩) (by with_reducible exact HD.out) ?_
            try simp only [Act.put, List.setIfInBounds_toArray, List.set_cons_zero, List.set_cons_succ]
            refine anyU_take2 (i := 1) (v := .int .i64 1) (by simp only [List.getElem?_toArray, List.getElem?_cons_succ, List.getElem?_cons_zero]; exact rfl) (by kernel_rfl) 12 (by kernel_rfl) (by kernel_rfl) (fun _ _ _ h => h) (by kernel_rfl) (by kernel_rfl) (by kernel_rfl) (by kernel_rfl) (Or.inl ⟨by rfl, fun w hSw => (by go_simp; try with_reducible rfl)⟩) (by with_reducible exact HD.out) ?_
            try simp only [Act.put, List.setIfInBounds_toArray, List.set_cons_zero, List.set_cons_succ]
            refine anyU_one (i := 2) (by kernel_rfl) (by simp only [List.getElem?_toArray, List.getElem?_cons_succ, List.getElem?_cons_zero]; exact rfl) (fun K hK => ?_)
            rw [if_pos (by rfl)]
            refine wp_store_at (z := zero8) rfl h8 rfl rfl HD.out.r rfl ?_
            intro w6 hn hg
            have HN := hide hn
            have HB := hide (HD.out.put hg)
            clear hn hg
            refine hK.out _ _ (fun e _ => absurd rfl e) ?_
            clear hK K
            try simp only [Act.put]
            refine anyU_done (by kernel_rfl) ?_
            refine NoPanic.normal ?_
            try simp only [Act.put]
            go_wp2
            exact bodyPost_ret (results_pre Try.results23 rfl rfl HN.out h8) rfl ⟨by rw [← HPL.out]; rfl, HB.out⟩
          · skip
            have hfi : ((n : Int) - 1 - 1 ≤ (sn : Int)) := by omega
            have h2i : ((S : Int) - 1 ≤ (m : Int)) := by omega
            have h3i : ¬ ((2 : Int) ≤ (m : Int) - (sn : Int)) := by omega
            replace HPL := hide (show ((1 : Int), own) = P from by have h := HPL.out; rw [if_pos (by simp <;> omega)] at h; exact h)
            clear hf h2 h3 hS
            go_upto_region 3 with (first
        | (go_at_call 20; (with_reducible refine (HFA.out _).mono ?_); rintro e w7 ⟨rfl, hw⟩; subst hw)
        | (go_at_call 18; (with_reducible refine (HSL.out _).mono ?_); rintro e w7 ⟨rfl, hw⟩; subst hw))
            refine wp_region_noPanic ?_
            refine wp_region_U 2 (fun wz => Prz w wz own) (by kernel_rfl) ?_
            have HD := hide HP.out.drew
            generalize World.drew _ = wd at HD ⊢
            refine anyU_take2 (i := 0) (v := .agg (cA own)) (by simp only [List.getElem?_toArray, List.getElem?_cons_zero]; exact rfl) (by kernel_rfl) 12 (by kernel_rfl) (by kernel_rfl) (fun _ _ _ h => h) (by kernel_rfl) (by kernel_rfl) (by kernel_rfl) (by kernel_rfl) (Or.inl ⟨by rfl, fun w hSw => exec_load_gp rfl rfl (hSw.o.at8) at_under rfl (at_sz h8)⟩) (by with_reducible exact HD.out) ?_
            try simp only [Act.put, List.setIfInBounds_toArray, List.set_cons_zero, List.set_cons_succ]
            refine anyU_take2 (i := 1) (v := .int .i64 1) (by simp only [List.getElem?_toArray, List.getElem?_cons_succ, List.getElem?_cons_zero]; exact rfl) (by kernel_rfl) 12 (by kernel_rfl) (by kernel_rfl) (fun _ _ _ h => h) (by kernel_rfl) (by kernel_rfl) (by kernel_rfl) (by kernel_rfl) (Or.inl ⟨by rfl, fun w hSw => (by go_simp; try with_reducible rfl)⟩) (by with_reducible exact HD.out) ?_
            try simp only [Act.put, List.setIfInBounds_toArray, List.set_cons_zero, List.set_cons_succ]
            refine anyU_one (i := 2) (by kernel_rfl) (by simp only [List.getElem?_toArray, List.getElem?_cons_succ, List.getElem?_cons_zero]; exact rfl) (fun K hK => ?_)
            rw [if_pos (by rfl)]
            refine wp_store_at (z := zero8) rfl h8 rfl rfl HD.out.r rfl ?_
            intro w6 hn hg
            have HN := hide hn
            have HB := hide (HD.out.put hg)
            clear hn hg
            refine hK.out _ _ (fun e _ => absurd rfl e) ?_
            clear hK K
            try simp only [Act.put]
            refine anyU_done (by kernel_rfl) ?_
            refine NoPanic.normal ?_
            try simp only [Act.put]
            go_wp2
            exact bodyPost_ret (results_pre Try.results23 rfl rfl HN.out h8) rfl ⟨by rw [← HPL.out]; rfl, HB.out⟩
        · by_cases h3 : sn + 2 ≤ m
          · skip
            have hfi : ((n : Int) - 1 - 1 ≤ (sn : Int)) := by omega
            have h2i : ((S : Int) - 1 ≤ (m : Int)) := by omega
            have h3i : ((2 : Int) ≤ (m : Int) - (sn : Int)) := by omega
            replace HPL := hide (show ((1 : Int), own) = P from by have h := HPL.out; rw [if_pos (by simp <;> omega)] at h; exact h)
            clear hf h2 h3 hS
            go_upto_region 3 with (first
        | (go_at_call 20; (with_reducible refine (HFA.out _).mono ?_); rintro e w7 ⟨rfl, hw⟩; subst hw)
        | (go_at_call 18; (with_reducible refine (HSL.out _).mono ?_); rintro e w7 ⟨rfl, hw⟩; subst hw))
            refine wp_region_noPanic ?_
            refine wp_region_U 2 (fun wz => Prz w wz own) (by kernel_rfl) ?_
            have HD := hide HP.out.drew
            generalize World.drew _ = wd at HD ⊢
            refine anyU_take2 (i := 0) (v := .agg (cA own)) (by simp only [List.getElem?_toArray, List.getElem?_cons_zero]; exact rfl) (by kernel_rfl) 12 (by kernel_rfl) (by kernel_rfl) (fun _ _ _ h => h) (by kernel_rfl) (by kernel_rfl) (by kernel_rfl) (by kernel_rfl) (Or.inl ⟨by rfl, fun w hSw => exec_load_gp rfl rfl (hSw.o.at8) at_under rfl (at_sz h8)⟩) (by with_reducible exact HD.out) ?_
            try simp only [Act.put, List.setIfInBounds_toArray, List.set_cons_zero, List.set_cons_succ]
            refine anyU_take2 (i := 1) (v := .int .i64 1) (by simp only [List.getElem?_toArray, List.getElem?_cons_succ, List.getElem?_cons_zero]; exact rfl) (by kernel_rfl) 12 (by kernel_rfl) (by kernel_rfl) (fun _ _ _ h => h) (by kernel_rfl) (by kernel_rfl) (by kernel_rfl) (by kernel_rfl) (Or.inl ⟨by rfl, fun w hSw => (by go_simp; try with_reducible rfl)⟩) (by with_reducible exact HD.out) ?_
            try simp only [Act.put, List.setIfInBounds_toArray, List.set_cons_zero, List.set_cons_succ]
            refine anyU_one (i := 2) (by kernel_rfl) (by simp only [List.getElem?_toArray, List.getElem?_cons_succ, List.getElem?_cons_zero]; exact rfl) (fun K hK => ?_)
            rw [if_pos (by rfl)]
            refine wp_store_at (z := zero8) rfl h8 rfl rfl HD.out.r rfl ?_
            intro w6 hn hg
            have HN := hide hn
            have HB := hide (HD.out.put hg)
            clear hn hg
            refine hK.out _ _ (fun e _ => absurd rfl e) ?_
            clear hK K
            try simp only [Act.put]
            refine anyU_done (by kernel_rfl) ?_
            refine NoPanic.normal ?_
            try simp only [Act.put]
            go_wp2
            exact bodyPost_ret (results_pre Try.results23 rfl rfl HN.out h8) rfl ⟨by rw [← HPL.out]; rfl, HB.out⟩
          · skip
            have hfi : ((n : Int) - 1 - 1 ≤ (sn : Int)) := by omega
            have h2i : ((S : Int) - 1 ≤ (m : Int)) := by omega
            have h3i : ¬ ((2 : Int) ≤ (m : Int) - (sn : Int)) := by omega
            replace HPL := hide (show ((1 : Int), own) = P from by have h := HPL.out; rw [if_pos (by simp <;> omega)] at h; exact h)
            clear hf h2 h3 hS
            go_upto_region 3 with (first
        | (go_at_call 20; (with_reducible refine (HFA.out _).mono ?_); rintro e w7 ⟨rfl, hw⟩; subst hw)
        | (go_at_call 18; (with_reducible refine (HSL.out _).mono ?_); rintro e w7 ⟨rfl, hw⟩; subst hw))
            refine wp_region_noPanic ?_
            refine wp_region_U 2 (fun wz => Prz w wz own) (by kernel_rfl) ?_
            have HD := hide HP.out.drew
            generalize World.drew _ = wd at HD ⊢
            refine anyU_take2 (i := 0) (v := .agg (cA own)) (by simp only [List.getElem?_toArray, List.getElem?_cons_zero]; exact rfl) (by kernel_rfl) 12 (by kernel_rfl) (by kernel_rfl) (fun _ _ _ h => h) (by kernel_rfl) (by kernel_rfl) (by kernel_rfl) (by kernel_rfl) (Or.inl ⟨by rfl, fun w hSw => exec_load_gp rfl rfl (hSw.o.at8) at_under rfl (at_sz h8)⟩) (by with_reducible exact HD.out) ?_
            try simp only [Act.put, List.setIfInBounds_toArray, List.set_cons_zero, List.set_cons_succ]
            refine anyU_take2 (i := 1) (v := .int .i64 1) (by simp only [List.getElem?_toArray, List.getElem?_cons_succ, List.getElem?_cons_zero]; exact rfl) (by kernel_rfl) 12 (by kernel_rfl) (by kernel_rfl) (fun _ _ _ h => h) (by kernel_rfl) (by kernel_rfl) (by kernel_rfl) (by kernel_rfl) (Or.inl ⟨by rfl, fun w hSw => (by go_simp; try with_reducible rfl)⟩) (by with_reducible exact HD.out) ?_
            try simp only [Act.put, List.setIfInBounds_toArray, List.set_cons_zero, List.set_cons_succ]
            refine anyU_one (i := 2) (by kernel_rfl) (by simp only [List.getElem?_toArray, List.getElem?_cons_succ, List.getElem?_cons_zero]; exact rfl) (fun K hK => ?_)
            rw [if_pos (by rfl)]
            refine wp_store_at (z := zero8) rfl h8 rfl rfl HD.out.r rfl ?_
            intro w6 hn hg
            have HN := hide hn
            have HB := hide (HD.out.put hg)
            clear hn hg
            refine hK.out _ _ (fun e _ => absurd rfl e) ?_
            clear hK K
            try simp only [Act.put]
            refine anyU_done (by kernel_rfl) ?_
            refine NoPanic.normal ?_
            try simp only [Act.put]
            go_wp2
            exact bodyPost_ret (results_pre Try.results23 rfl rfl HN.out h8) rfl ⟨by rw [← HPL.out]; rfl, HB.out⟩
      · cases late
        · by_cases h3 : sn + 2 ≤ m
          · skip
            have hfi : ((n : Int) - 1 - 1 ≤ (sn : Int)) := by omega
            have h2i : ¬ ((S : Int) - 1 ≤ (m : Int)) := by omega
            have h3i : ((2 : Int) ≤ (m : Int) - (sn : Int)) := by omega
            replace HPL := hide (show ((1 : Int), own) = P from by have h := HPL.out; rw [if_pos (by simp <;> omega)] at h; exact h)
            clear hf h2 h3 hS
            go_upto_region 3 with (first
        | (go_at_call 20; (with_reducible refine (HFA.out _).mono ?_); rintro e w7 ⟨rfl, hw⟩; subst hw)
        | (go_at_call 18; (with_reducible refine (HSL.out _).mono ?_); rintro e w7 ⟨rfl, hw⟩; subst hw))
            refine wp_region_noPanic ?_
            refine wp_region_U 2 (fun wz => Prz w wz own) (by kernel_rfl) ?_
            have HD := hide HP.out.drew
            generalize World.drew _ = wd at HD ⊢
            refine anyU_take2 (i := 0) (v := .agg (cA own)) (by simp only [List.getElem?_toArray, List.getElem?_cons_zero]; exact rfl) (by kernel_rfl) 12 (by kernel_rfl) (by kernel_rfl) (fun _ _ _ h => h) (by kernel_rfl) (by kernel_rfl) (by kernel_rfl) (by kernel_rfl) (Or.inl ⟨by rfl, fun w hSw => exec_load_gp rfl rfl (hSw.o.at8) at_under rfl (at_sz h8)⟩) (by with_reducible exact HD.out) ?_
            try simp only [Act.put, List.setIfInBounds_toArray, List.set_cons_zero, List.set_cons_succ]
            refine anyU_take2 (i := 1) (v := .int .i64 1) (by simp only [List.getElem?_toArray, List.getElem?_cons_succ, List.getElem?_cons_zero]; exact rfl) (by kernel_rfl) 12 (by kernel_rfl) (by kernel_rfl) (fun _ _ _ h => h) (by kernel_rfl) (by kernel_rfl) (by kernel_rfl) (by kernel_rfl) (Or.inl ⟨by rfl, fun w hSw => (by go_simp; try with_reducible rfl)⟩) (by with_reducible exact HD.out) ?_
            try simp only [Act.put, List.setIfInBounds_toArray, List.set_cons_zero, List.set_cons_succ]
            refine anyU_one (i := 2) (by kernel_rfl) (by simp only [List.getElem?_toArray, List.getElem?_cons_succ, List.getElem?_cons_zero]; exact rfl) (fun K hK => ?_)
            rw [if_pos (by rfl)]
            refine wp_store_at (z := zero8) rfl h8 rfl rfl HD.out.r rfl ?_
            intro w6 hn hg
            have HN := hide hn
            have HB := hide (HD.out.put hg)
            clear hn hg
            refine hK.out _ _ (fun e _ => absurd rfl e) ?_
            clear hK K
            try simp only [Act.put]
            refine anyU_done (by kernel_rfl) ?_
            refine NoPanic.normal ?_
            try simp only [Act.put]
            go_wp2
            exact bodyPost_ret (results_pre Try.results23 rfl rfl HN.out h8) rfl ⟨by rw [← HPL.out]; rfl, HB.out⟩
          · skip
            have hfi : ((n : Int) - 1 - 1 ≤ (sn : Int)) := by omega
            have h2i : ¬ ((S : Int) - 1 ≤ (m : Int)) := by omega
            have h3i : ¬ ((2 : Int) ≤ (m : Int) - (sn : Int)) := by omega
            replace HPL := hide (show ((1 : Int), own) = P from by have h := HPL.out; rw [if_pos (by simp <;> omega)] at h; exact h)
            clear hf h2 h3 hS
            go_upto_region 3 with (first
        | (go_at_call 20; (with_reducible refine (HFA.out _).mono ?_); rintro e w7 ⟨rfl, hw⟩; subst hw)
        | (go_at_call 18; (with_reducible refine (HSL.out _).mono ?_); rintro e w7 ⟨rfl, hw⟩; subst hw))
            refine wp_region_noPanic ?_
            refine wp_region_U 2 (fun wz => Prz w wz own) (by kernel_rfl) ?_
            have HD := hide HP.out.drew
            generalize World.drew _ = wd at HD ⊢
            refine anyU_take2 (i := 0) (v := .agg (cA own)) (by simp only [List.getElem?_toArray, List.getElem?_cons_zero]; exact rfl) (by kernel_rfl) 12 (by kernel_rfl) (by kernel_rfl) (fun _ _ _ h => h) (by kernel_rfl) (by kernel_rfl) (by kernel_rfl) (by kernel_rfl) (Or.inl ⟨by rfl, fun w hSw => exec_load_gp rfl rfl (hSw.o.at8) at_under rfl (at_sz h8)⟩) (by with_reducible exact HD.out) ?_
            try simp only [Act.put, List.setIfInBounds_toArray, List.set_cons_zero, List.set_cons_succ]
            refine anyU_take2 (i := 1) (v := .int .i64 1) (by simp only [List.getElem?_toArray, List.getElem?_cons_succ, List.getElem?_cons_zero]; exact rfl) (by kernel_rfl) 12 (by kernel_rfl) (by kernel_rfl) (fun _ _ _ h => h) (by kernel_rfl) (by kernel_rfl) (by kernel_rfl) (by kernel_rfl) (Or.inl ⟨by rfl, fun w hSw => (by go_simp; try with_reducible rfl)⟩) (by with_reducible exact HD.out) ?_
            try simp only [Act.put, List.setIfInBounds_toArray, List.set_cons_zero, List.set_cons_succ]
            refine anyU_one (i := 2) (by kernel_rfl) (by simp only [List.getElem?_toArray, List.getElem?_cons_succ, List.getElem?_cons_zero]; exact rfl) (fun K hK => ?_)
            rw [if_pos (by rfl)]
            refine wp_store_at (z := zero8) rfl h8 rfl rfl HD.out.r rfl ?_
            intro w6 hn hg
            have HN := hide hn
            have HB := hide (HD.out.put hg)
            clear hn hg
            refine hK.out _ _ (fun e _ => absurd rfl e) ?_
            clear hK K
            try simp only [Act.put]
            refine anyU_done (by kernel_rfl) ?_
            refine NoPanic.normal ?_
            try simp only [Act.put]
            go_wp2
            exact bodyPost_ret (results_pre Try.results23 rfl rfl HN.out h8) rfl ⟨by rw [← HPL.out]; rfl, HB.out⟩
        · by_cases h3 : sn + 2 ≤ m
          · skip
            have hfi : ((n : Int) - 1 - 1 ≤ (sn : Int)) := by omega
            have h2i : ¬ ((S : Int) - 1 ≤ (m : Int)) := by omega
            have h3i : ((2 : Int) ≤ (m : Int) - (sn : Int)) := by omega
            replace HPL := hide (show ((1 : Int), own) = P from by have h := HPL.out; rw [if_pos (by simp <;> omega)] at h; exact h)
            clear hf h2 h3 hS
            go_upto_region 3 with (first
        | (go_at_call 20; (with_reducible refine (HFA.out _).mono ?_); rintro e w7 ⟨rfl, hw⟩; subst hw)
        | (go_at_call 18; (with_reducible refine (HSL.out _).mono ?_); rintro e w7 ⟨rfl, hw⟩; subst hw))
            refine wp_region_noPanic ?_
            refine wp_region_U 2 (fun wz => Prz w wz own) (by kernel_rfl) ?_
            have HD := hide HP.out.drew
            generalize World.drew _ = wd at HD ⊢
            refine anyU_take2 (i := 0) (v := .agg (cA own)) (by simp only [List.getElem?_toArray, List.getElem?_cons_zero]; exact rfl) (by kernel_rfl) 12 (by kernel_rfl) (by kernel_rfl) (fun _ _ _ h => h) (by kernel_rfl) (by kernel_rfl) (by kernel_rfl) (by kernel_rfl) (Or.inl ⟨by rfl, fun w hSw => exec_load_gp rfl rfl (hSw.o.at8) at_under rfl (at_sz h8)⟩) (by with_reducible exact HD.out) ?_
            try simp only [Act.put, List.setIfInBounds_toArray, List.set_cons_zero, List.set_cons_succ]
            refine anyU_take2 (i := 1) (v := .int .i64 1) (by simp only [List.getElem?_toArray, List.getElem?_cons_succ, List.getElem?_cons_zero]; exact rfl) (by kernel_rfl) 12 (by kernel_rfl) (by kernel_rfl) (fun _ _ _ h => h) (by kernel_rfl) (by kernel_rfl) (by kernel_rfl) (by kernel_rfl) (Or.inl ⟨by rfl, fun w hSw => (by go_simp; try with_reducible rfl)⟩) (by with_reducible exact HD.out) ?_
            try simp only [Act.put, List.setIfInBounds_toArray, List.set_cons_zero, List.set_cons_succ]
            refine anyU_one (i := 2) (by kernel_rfl) (by simp only [List.getElem?_toArray, List.getElem?_cons_succ, List.getElem?_cons_zero]; exact rfl) (fun K hK => ?_)
            rw [if_pos (by rfl)]
            refine wp_store_at (z := zero8) rfl h8 rfl rfl HD.out.r rfl ?_
            intro w6 hn hg
            have HN := hide hn
            have HB := hide (HD.out.put hg)
            clear hn hg
            refine hK.out _ _ (fun e _ => absurd rfl e) ?_
            clear hK K
            try simp only [Act.put]
            refine anyU_done (by kernel_rfl) ?_
            refine NoPanic.normal ?_
            try simp only [Act.put]
            go_wp2
            exact bodyPost_ret (results_pre Try.results23 rfl rfl HN.out h8) rfl ⟨by rw [← HPL.out]; rfl, HB.out⟩
          · skip
            have hfi : ((n : Int) - 1 - 1 ≤ (sn : Int)) := by omega
            have h2i : ¬ ((S : Int) - 1 ≤ (m : Int)) := by omega
            have h3i : ¬ ((2 : Int) ≤ (m : Int) - (sn : Int)) := by omega
            replace HPL := hide (show ((1 : Int), own) = P from by have h := HPL.out; rw [if_pos (by simp <;> omega)] at h; exact h)
            clear hf h2 h3 hS
            go_upto_region 3 with (first
        | (go_at_call 20; (with_reducible refine (HFA.out _).mono ?_); rintro e w7 ⟨rfl, hw⟩; subst hw)
        | (go_at_call 18; (with_reducible refine (HSL.out _).mono ?_); rintro e w7 ⟨rfl, hw⟩; subst hw))
            refine wp_region_noPanic ?_
            refine wp_region_U 2 (fun wz => Prz w wz own) (by kernel_rfl) ?_
            have HD := hide HP.out.drew
            generalize World.drew _ = wd at HD ⊢
            refine anyU_take2 (i := 0) (v := .agg (cA own)) (by simp only [List.getElem?_toArray, List.getElem?_cons_zero]; exact rfl) (by kernel_rfl) 12 (by kernel_rfl) (by kernel_rfl) (fun _ _ _ h => h) (by kernel_rfl) (by kernel_rfl) (by kernel_rfl) (by kernel_rfl) (Or.inl ⟨by rfl, fun w hSw => exec_load_gp rfl rfl (hSw.o.at8) at_under rfl (at_sz h8)⟩) (by with_reducible exact HD.out) ?_
            try simp only [Act.put, List.setIfInBounds_toArray, List.set_cons_zero, List.set_cons_succ]
            refine anyU_take2 (i := 1) (v := .int .i64 1) (by simp only [List.getElem?_toArray, List.getElem?_cons_succ, List.getElem?_cons_zero]; exact rfl) (by kernel_rfl) 12 (by kernel_rfl) (by kernel_rfl) (fun _ _ _ h => h) (by kernel_rfl) (by kernel_rfl) (by kernel_rfl) (by kernel_rfl) (Or.inl ⟨by rfl, fun w hSw => (by go_simp; try with_reducible rfl)⟩) (by with_reducible exact HD.out) ?_
            try simp only [Act.put, List.setIfInBounds_toArray, List.set_cons_zero, List.set_cons_succ]
            refine anyU_one (i := 2) (by kernel_rfl) (by simp only [List.getElem?_toArray, List.getElem?_cons_succ, List.getElem?_cons_zero]; exact rfl) (fun K hK => ?_)
            rw [if_pos (by rfl)]
            refine wp_store_at (z := zero8) rfl h8 rfl rfl HD.out.r rfl ?_
            intro w6 hn hg
            have HN := hide hn
            have HB := hide (HD.out.put hg)
            clear hn hg
            refine hK.out _ _ (fun e _ => absurd rfl e) ?_
            clear hK K
            try simp only [Act.put]
            refine anyU_done (by kernel_rfl) ?_
            refine NoPanic.normal ?_
            try simp only [Act.put]
            go_wp2
            exact bodyPost_ret (results_pre Try.results23 rfl rfl HN.out h8) rfl ⟨by rw [← HPL.out]; rfl, HB.out⟩
    · by_cases h2 : n / 2 ≤ m
      · cases late
        · by_cases h3 : sn + 2 ≤ m
          · skip
            have hfi : ¬ ((n : Int) - 1 - 1 ≤ (sn : Int)) := by omega
            have h2i : ((S : Int) - 1 ≤ (m : Int)) := by omega
            have h3i : ((2 : Int) ≤ (m : Int) - (sn : Int)) := by omega
            replace HPL := hide (show ((2 : Int), allA own zs) = P from by have h := HPL.out; rw [if_neg (by simp <;> omega), if_pos (by simp <;> omega)] at h; exact h)
            clear hf h2 h3 hS
            go_wp2_with (first
        | (go_at_call 20; (with_reducible refine (HFA.out _).mono ?_); rintro e w7 ⟨rfl, hw⟩; subst hw)
        | (go_at_call 18; (with_reducible refine (HSL.out _).mono ?_); rintro e w7 ⟨rfl, hw⟩; subst hw)
        | ((with_reducible refine wpList_load_at h8 ?_ ?_ HP.out.o.at8 ?_); rfl; rfl)
        | ((with_reducible refine wpList_lit_at h8 ?_ ?_); rfl; try dsimp only [Act.put])
        | (go_at_call 39; go_loud ((with_reducible refine (HCO.out _ HP.out).mono ?_); rintro e w8 ⟨⟨B, d, rfl, hd1, hd2, hits⟩, hb⟩; replace HP := hide (HP.out.kept (kept_trans (kept_two _ _ _) hb)); have HI := hide hits; clear hits hb))
        | (go_at_call 38; go_loud ((with_reducible refine (HJN.out _ _ _ HI.out hd1 hd2).mono ?_); rintro e w9 ⟨rfl, hb⟩; replace HP := hide (HP.out.kept hb); clear hb HI))
        | ((with_reducible refine wpList_store_at (y := allA own zs) (z := zero8) hy8 ?_ ?_ HP.out.r rfl ?_); rfl; rfl; intro w6 hn hg; have HN := hide hn; have HB := hide (HP.out.put hg); clear hn hg))
            exact bodyPost_ret (results_pre Try.results23 rfl rfl HN.out hy8) rfl ⟨by rw [← HPL.out]; rfl, HB.out⟩
          · skip
            have hfi : ¬ ((n : Int) - 1 - 1 ≤ (sn : Int)) := by omega
            have h2i : ((S : Int) - 1 ≤ (m : Int)) := by omega
            have h3i : ¬ ((2 : Int) ≤ (m : Int) - (sn : Int)) := by omega
            replace HPL := hide (show ((0 : Int), zero8) = P from by have h := HPL.out; rw [if_neg (by simp <;> omega), if_neg (by simp <;> omega)] at h; exact h)
            clear hf h2 h3 hS
            go_wp2_with (first
        | (go_at_call 20; (with_reducible refine (HFA.out _).mono ?_); rintro e w7 ⟨rfl, hw⟩; subst hw)
        | (go_at_call 18; (with_reducible refine (HSL.out _).mono ?_); rintro e w7 ⟨rfl, hw⟩; subst hw)
        | ((with_reducible refine wpList_store_at (y := zero8) (z := zero8) rfl ?_ ?_ HP.out.r rfl ?_); rfl; rfl; intro w6 hn hg; have HN := hide hn; have HB := hide (HP.out.put hg); clear hn hg))
            exact bodyPost_ret (results_pre Try.results23 rfl rfl HN.out rfl) rfl ⟨by rw [← HPL.out]; rfl, HB.out⟩
        · by_cases h3 : sn + 2 ≤ m
          · skip
            have hfi : ¬ ((n : Int) - 1 - 1 ≤ (sn : Int)) := by omega
            have h2i : ((S : Int) - 1 ≤ (m : Int)) := by omega
            have h3i : ((2 : Int) ≤ (m : Int) - (sn : Int)) := by omega
            replace HPL := hide (show ((2 : Int), allA own zs) = P from by have h := HPL.out; rw [if_neg (by simp <;> omega), if_pos (by simp <;> omega)] at h; exact h)
            clear hf h2 h3 hS
            go_wp2_with (first
        | (go_at_call 20; (with_reducible refine (HFA.out _).mono ?_); rintro e w7 ⟨rfl, hw⟩; subst hw)
        | (go_at_call 18; (with_reducible refine (HSL.out _).mono ?_); rintro e w7 ⟨rfl, hw⟩; subst hw)
        | ((with_reducible refine wpList_load_at h8 ?_ ?_ HP.out.o.at8 ?_); rfl; rfl)
        | ((with_reducible refine wpList_lit_at h8 ?_ ?_); rfl; try dsimp only [Act.put])
        | (go_at_call 39; go_loud ((with_reducible refine (HCO.out _ HP.out).mono ?_); rintro e w8 ⟨⟨B, d, rfl, hd1, hd2, hits⟩, hb⟩; replace HP := hide (HP.out.kept (kept_trans (kept_two _ _ _) hb)); have HI := hide hits; clear hits hb))
        | (go_at_call 38; go_loud ((with_reducible refine (HJN.out _ _ _ HI.out hd1 hd2).mono ?_); rintro e w9 ⟨rfl, hb⟩; replace HP := hide (HP.out.kept hb); clear hb HI))
        | ((with_reducible refine wpList_store_at (y := allA own zs) (z := zero8) hy8 ?_ ?_ HP.out.r rfl ?_); rfl; rfl; intro w6 hn hg; have HN := hide hn; have HB := hide (HP.out.put hg); clear hn hg))
            exact bodyPost_ret (results_pre Try.results23 rfl rfl HN.out hy8) rfl ⟨by rw [← HPL.out]; rfl, HB.out⟩
          · skip
            have hfi : ¬ ((n : Int) - 1 - 1 ≤ (sn : Int)) := by omega
            have h2i : ((S : Int) - 1 ≤ (m : Int)) := by omega
            have h3i : ¬ ((2 : Int) ≤ (m : Int) - (sn : Int)) := by omega
            replace HPL := hide (show ((2 : Int), allA own zs) = P from by have h := HPL.out; rw [if_neg (by simp <;> omega), if_pos (by simp <;> omega)] at h; exact h)
            clear hf h2 h3 hS
            go_wp2_with (first
        | (go_at_call 20; (with_reducible refine (HFA.out _).mono ?_); rintro e w7 ⟨rfl, hw⟩; subst hw)
        | (go_at_call 18; (with_reducible refine (HSL.out _).mono ?_); rintro e w7 ⟨rfl, hw⟩; subst hw)
        | ((with_reducible refine wpList_load_at h8 ?_ ?_ HP.out.o.at8 ?_); rfl; rfl)
        | ((with_reducible refine wpList_lit_at h8 ?_ ?_); rfl; try dsimp only [Act.put])
        | (go_at_call 39; go_loud ((with_reducible refine (HCO.out _ HP.out).mono ?_); rintro e w8 ⟨⟨B, d, rfl, hd1, hd2, hits⟩, hb⟩; replace HP := hide (HP.out.kept (kept_trans (kept_two _ _ _) hb)); have HI := hide hits; clear hits hb))
        | (go_at_call 38; go_loud ((with_reducible refine (HJN.out _ _ _ HI.out hd1 hd2).mono ?_); rintro e w9 ⟨rfl, hb⟩; replace HP := hide (HP.out.kept hb); clear hb HI))
        | ((with_reducible refine wpList_store_at (y := allA own zs) (z := zero8) hy8 ?_ ?_ HP.out.r rfl ?_); rfl; rfl; intro w6 hn hg; have HN := hide hn; have HB := hide (HP.out.put hg); clear hn hg))
            exact bodyPost_ret (results_pre Try.results23 rfl rfl HN.out hy8) rfl ⟨by rw [← HPL.out]; rfl, HB.out⟩
      · cases late
        · by_cases h3 : sn + 2 ≤ m
          · skip
            have hfi : ¬ ((n : Int) - 1 - 1 ≤ (sn : Int)) := by omega
            have h2i : ¬ ((S : Int) - 1 ≤ (m : Int)) := by omega
            have h3i : ((2 : Int) ≤ (m : Int) - (sn : Int)) := by omega
            replace HPL := hide (show ((0 : Int), zero8) = P from by have h := HPL.out; rw [if_neg (by simp <;> omega), if_neg (by simp <;> omega)] at h; exact h)
            clear hf h2 h3 hS
            go_wp2_with (first
        | (go_at_call 20; (with_reducible refine (HFA.out _).mono ?_); rintro e w7 ⟨rfl, hw⟩; subst hw)
        | (go_at_call 18; (with_reducible refine (HSL.out _).mono ?_); rintro e w7 ⟨rfl, hw⟩; subst hw)
        | ((with_reducible refine wpList_store_at (y := zero8) (z := zero8) rfl ?_ ?_ HP.out.r rfl ?_); rfl; rfl; intro w6 hn hg; have HN := hide hn; have HB := hide (HP.out.put hg); clear hn hg))
            exact bodyPost_ret (results_pre Try.results23 rfl rfl HN.out rfl) rfl ⟨by rw [← HPL.out]; rfl, HB.out⟩
          · skip
            have hfi : ¬ ((n : Int) - 1 - 1 ≤ (sn : Int)) := by omega
            have h2i : ¬ ((S : Int) - 1 ≤ (m : Int)) := by omega
            have h3i : ¬ ((2 : Int) ≤ (m : Int) - (sn : Int)) := by omega
            replace HPL := hide (show ((0 : Int), zero8) = P from by have h := HPL.out; rw [if_neg (by simp <;> omega), if_neg (by simp <;> omega)] at h; exact h)
            clear hf h2 h3 hS
            go_wp2_with (first
        | (go_at_call 20; (with_reducible refine (HFA.out _).mono ?_); rintro e w7 ⟨rfl, hw⟩; subst hw)
        | (go_at_call 18; (with_reducible refine (HSL.out _).mono ?_); rintro e w7 ⟨rfl, hw⟩; subst hw)
        | ((with_reducible refine wpList_store_at (y := zero8) (z := zero8) rfl ?_ ?_ HP.out.r rfl ?_); rfl; rfl; intro w6 hn hg; have HN := hide hn; have HB := hide (HP.out.put hg); clear hn hg))
            exact bodyPost_ret (results_pre Try.results23 rfl rfl HN.out rfl) rfl ⟨by rw [← HPL.out]; rfl, HB.out⟩
        · by_cases h3 : sn + 2 ≤ m
          · skip
            have hfi : ¬ ((n : Int) - 1 - 1 ≤ (sn : Int)) := by omega
            have h2i : ¬ ((S : Int) - 1 ≤ (m : Int)) := by omega
            have h3i : ((2 : Int) ≤ (m : Int) - (sn : Int)) := by omega
            replace HPL := hide (show ((0 : Int), zero8) = P from by have h := HPL.out; rw [if_neg (by simp <;> omega), if_neg (by simp <;> omega)] at h; exact h)
            clear hf h2 h3 hS
            go_wp2_with (first
        | (go_at_call 20; (with_reducible refine (HFA.out _).mono ?_); rintro e w7 ⟨rfl, hw⟩; subst hw)
        | (go_at_call 18; (with_reducible refine (HSL.out _).mono ?_); rintro e w7 ⟨rfl, hw⟩; subst hw)
        | ((with_reducible refine wpList_store_at (y := zero8) (z := zero8) rfl ?_ ?_ HP.out.r rfl ?_); rfl; rfl; intro w6 hn hg; have HN := hide hn; have HB := hide (HP.out.put hg); clear hn hg))
            exact bodyPost_ret (results_pre Try.results23 rfl rfl HN.out rfl) rfl ⟨by rw [← HPL.out]; rfl, HB.out⟩
          · skip
            have hfi : ¬ ((n : Int) - 1 - 1 ≤ (sn : Int)) := by omega
            have h2i : ¬ ((S : Int) - 1 ≤ (m : Int)) := by omega
            have h3i : ¬ ((2 : Int) ≤ (m : Int) - (sn : Int)) := by omega
            replace HPL := hide (show ((0 : Int), zero8) = P from by have h := HPL.out; rw [if_neg (by simp <;> omega), if_neg (by simp <;> omega)] at h; exact h)
            clear hf h2 h3 hS
            go_wp2_with (first
        | (go_at_call 20; (with_reducible refine (HFA.out _).mono ?_); rintro e w7 ⟨rfl, hw⟩; subst hw)
        | (go_at_call 18; (with_reducible refine (HSL.out _).mono ?_); rintro e w7 ⟨rfl, hw⟩; subst hw)
        | ((with_reducible refine wpList_store_at (y := zero8) (z := zero8) rfl ?_ ?_ HP.out.r rfl ?_); rfl; rfl; intro w6 hn hg; have HN := hide hn; have HB := hide (HP.out.put hg); clear hn hg))
            exact bodyPost_ret (results_pre Try.results23 rfl rfl HN.out rfl) rfl ⟨by rw [← HPL.out]; rfl, HB.out⟩
end Go.Proofs.Ytjkdccokiaejhaa
