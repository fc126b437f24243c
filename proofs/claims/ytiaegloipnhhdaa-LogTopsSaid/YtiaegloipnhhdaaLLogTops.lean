/- Proved: the law LogTops returns true for any calls and any deps. No condition. -/
import Derived.Test.YtiaegloipnhhdaaWa
import Derived.Test.YtiaegloipnhhdaaWx
import Derived.LoopTactic
import Derived.Deep.CutBlock
namespace Go.Proofs.Ytiaegloipnhhdaa.logTops
open Go.ChangeShapes Go.WideShapes Go.ChangeAt Go.RowKit
open Go.Maps
set_option maxRecDepth 100000 in
set_option maxHeartbeats 64000000 in
theorem walk (A : Option Addr) (n c : Nat) (l : List Ga) (p0 p1 p2 p3 p4 p5 p6 : Int) (W : World) (hs : GasIn W A n c l) (_ : ∀ z ∈ [p0, p1, p2, p3, p4, p5, p6], I64 z) :
    Calls Try.prog 6 #[.slice A n c, .agg #[.int .i64 p0, .int .i64 p1, .int .i64 p2, .int .i64 p3, .int .i64 p4, .int .i64 p5, .int .i64 p6]] W fun e w' => e = .returned (.bool true) ∧ Below W.heap.size W w' := by
  have HS := hide hs
  have hn : n ≤ 9223372036854775807 := by have h1 := hs.le; have h2 := hs.room; omega
  have HN := hide hs.len
  have HNW := hide (fun w => new1 w)
  clear hs
  go_enter Try.func6, Try.ntmps6
  go_upto_region 1 with (fail)
  have RU := hide (Row.new W 25 #[.int .i64 p0, .int .i64 p1, .int .i64 p2, .int .i64 p3, .int .i64 p4, .int .i64 p5, .int .i64 p6])
  have HB := hide (kept_alloc (kept_refl W) (.cells #[.int .i64 p0, .int .i64 p1, .int .i64 p2, .int .i64 p3, .int .i64 p4, .int .i64 p5, .int .i64 p6] 25))
  generalize W.alloc (.cells #[.int .i64 p0, .int .i64 p1, .int .i64 p2, .int .i64 p3, .int .i64 p4, .int .i64 p5, .int .i64 p6] 25) = w1 at RU HB ⊢
  generalize W.heap.size = bu at RU ⊢
  go_upto_region 4 with (first
    | (go_at_call 7; (with_reducible refine (HNW.out _).mono ?_); rintro e w2 ⟨g, b, rfl, hr⟩; have HR := hide (show T1 W w2 g b zeroLw bu [p0, p1, p2, p3, p4, p5, p6] from ⟨⟨kept_trans HB.out hr.low, hr.pg, Nat.le_trans HB.out.size hr.hg, Nat.le_trans HB.out.size hr.hb⟩, RU.out.below hr.low RU.out.lt⟩); clear hr))
  clear RU HB
  go_upto_block 0 with (fail)
  go_cut [6] from 17 to 44 (fun _ wx => ∃ x : Lw, Hid (x.k.length ≤ 40) ∧ Hid (T1 W wx g b x bu [p0, p1, p2, p3, p4, p5, p6]))
  case first =>
    go_wp2
    go_loopw [6] (fun i wr => ∃ (k : Nat) (x : Lw), k ≤ n ∧ k ≤ 40 ∧ i = .int .i64 k ∧ Hid (x.k.length ≤ k) ∧ Hid (T1 W wr g b x bu [p0, p1, p2, p3, p4, p5, p6])) (fun i _ => 40 - (intOf i).toNat)
    case atStart => exact ⟨0, zeroLw, by omega, by omega, rfl, hide (Nat.le_refl _), HR⟩
    case round =>
      clear HR
      obtain ⟨k, x, hk, hk40, rfl, HL, HR⟩ := hrel
      by_cases hlt : k < n ∧ k < 40
      · obtain ⟨h1, h2⟩ := hlt
        have h1i : (k : Int) < (n : Int) := by omega
        have h2i : (k : Int) < 40 := by omega
        have hkl : k < l.length := by rw [HN.out]; exact h1
        obtain ⟨a, ha⟩ : ∃ a, l[k]? = some a := ⟨_, List.getElem?_eq_getElem hkl⟩
        have hok := HS.out.ok a (List.mem_of_getElem? ha)
        obtain ⟨gl, off, hA, hC⟩ := HS.out.at_ HR.out.rl.low ha
        subst hA
        obtain ⟨hc1, hc2, hc3⟩ := ga_range hC
        have HC1 := hide hc1
        have HC2 := hide hc2
        have HC3 := hide hc3
        have HLI := hide (fun w => light_any a.c hok.c w)
        have h8 := hok.c.a
        have hxl : x.k.length ≤ 1000000000 := by have := HL.out; omega
        clear ha hkl hC hok hc1 hc2 hc3
        cases hq : lightB a.c
        · simp only [hq] at HLI
          clear hq
          go_wp2_with (first
            | ((with_reducible refine wpList_load_ce h8 ?_ ?_ HC1.out ?_); rfl; rfl)
            | (go_at_call 16; (with_reducible refine (HLI.out _).mono ?_); rintro e w3 ⟨rfl, hb⟩; replace HR := hide (HR.out.below hb); clear hb))
          go_roundw
          case rel => exact ⟨k + 1, x, by omega, by omega, by go_num, hide (by have := HL.out; omega), HR⟩
          case measure => simp [intOf]; omega
        · simp only [hq] at HLI
          clear hq
          go_upto_region 8 with (first
            | ((with_reducible refine wpList_load_ce h8 ?_ ?_ HC1.out ?_); rfl; rfl)
            | (go_at_call 16; (with_reducible refine (HLI.out _).mono ?_); rintro e w3 ⟨rfl, hb⟩; have HB3 := hide hb; replace HR := hide (HR.out.below hb); clear hb))
          have HST := hide (fun w (h : Pg w g b x) => pset_any h h8 hxl a.i.1 a.i.2)
          have HL2 := hide (show (setL x (a.i.1, a.i.2) a.c).k.length ≤ k + 1 from Nat.le_trans (set_len _ _ _) (by have := HL.out; omega))
          unfold SetP at HST
          generalize setL x (a.i.1, a.i.2) a.c = x' at HST HL2
          generalize maySet x (a.i.1, a.i.2) a.c = M at HST
          have HRN := hide (fun wz (hb : Below wr.heap.size wr wz) => (show wz.rangeAt gl (off + k * 31 + 3) a.c.l ∧ wz.cell? ⟨gl, off + k * 31 + 1, none⟩ = some (.int .i64 a.i.1) ∧ wz.cell? ⟨gl, off + k * 31 + 1 + 1, none⟩ = some (.int .i64 a.i.2) from
            ⟨fun j v hj => below_some hb (HC1.out j v hj), below_some hb HC2.out, below_some hb HC3.out⟩))
          refine wp_region_noPanic ?_
          refine wp_region_U 11 (fun wz => Below w3.heap.size w3 wz) (by kernel_rfl) ?_
          have HD := hide (show Below w3.heap.size w3 w3.drew from kept_drewN (kept_refl _) 1)
          generalize w3.drew = wd at HD ⊢
          replace HR := hide (HR.out.below HD.out)
          refine anyU_take2 (i := 0) (v := .pointer (some ⟨g, 0, none⟩)) (by simp only [List.getElem?_toArray, List.getElem?_cons_zero]; exact rfl) (by kernel_rfl) 12 (by kernel_rfl) (by kernel_rfl) (fun _ _ _ h => h) (by kernel_rfl) (by kernel_rfl) (by kernel_rfl) (by kernel_rfl) (Or.inl ⟨by rfl, fun w hSw => (by go_simp; try with_reducible rfl)⟩) (by with_reducible exact HD.out) ?_
          try simp only [Act.put, List.setIfInBounds_toArray, List.set_cons_zero, List.set_cons_succ]
          refine anyU_take2 (i := 1) (v := .slice (some ⟨gl, off, none⟩) n c) (by simp only [List.getElem?_toArray, List.getElem?_cons_succ, List.getElem?_cons_zero]; exact rfl) (by kernel_rfl) 12 (by kernel_rfl) (by kernel_rfl) (fun _ _ _ h => h) (by kernel_rfl) (by kernel_rfl) (by kernel_rfl) (by kernel_rfl) (Or.inl ⟨by rfl, fun w hSw => (by go_simp; try with_reducible rfl)⟩) (by with_reducible exact HD.out) ?_
          try simp only [Act.put, List.setIfInBounds_toArray, List.set_cons_zero, List.set_cons_succ]
          refine anyU_take2 (i := 2) (v := .int .i64 (k : Nat)) (by simp only [List.getElem?_toArray, List.getElem?_cons_succ, List.getElem?_cons_zero]; exact rfl) (by kernel_rfl) 12 (by kernel_rfl) (by kernel_rfl) (fun _ _ _ h => h) (by kernel_rfl) (by kernel_rfl) (by kernel_rfl) (by kernel_rfl) (Or.inl ⟨by rfl, fun w hSw => (by go_simp; try with_reducible rfl)⟩) (by with_reducible exact HD.out) ?_
          try simp only [Act.put, List.setIfInBounds_toArray, List.set_cons_zero, List.set_cons_succ]
          refine anyU_take2 (i := 3) (v := .pointer (some ⟨gl, off + k * 31, none⟩)) (by simp only [List.getElem?_toArray, List.getElem?_cons_succ, List.getElem?_cons_zero]; exact rfl) (by kernel_rfl) 12 (by kernel_rfl) (by kernel_rfl) (fun _ _ _ h => h) (by kernel_rfl) (by kernel_rfl) (by kernel_rfl) (by kernel_rfl) (Or.inl ⟨by rfl, fun w hSw => (by go_simp; try with_reducible rfl)⟩) (by with_reducible exact HD.out) ?_
          try simp only [Act.put, List.setIfInBounds_toArray, List.set_cons_zero, List.set_cons_succ]
          refine anyU_take2 (i := 4) (v := .pointer (some ⟨gl, off + k * 31 + 1, none⟩)) (by simp only [List.getElem?_toArray, List.getElem?_cons_succ, List.getElem?_cons_zero]; exact rfl) (by kernel_rfl) 12 (by kernel_rfl) (by kernel_rfl) (fun _ _ _ h => h) (by kernel_rfl) (by kernel_rfl) (by kernel_rfl) (by kernel_rfl) (Or.inl ⟨by rfl, fun w hSw => (by go_simp; try with_reducible rfl)⟩) (by with_reducible exact HD.out) ?_
          try simp only [Act.put, List.setIfInBounds_toArray, List.set_cons_zero, List.set_cons_succ]
          refine anyU_take2 (i := 5) (v := .agg #[.int .i64 a.i.1, .int .i64 a.i.2]) (by simp only [List.getElem?_toArray, List.getElem?_cons_succ, List.getElem?_cons_zero]; exact rfl) (by kernel_rfl) 12 (by kernel_rfl) (by kernel_rfl) (fun _ _ _ h => h) (by kernel_rfl) (by kernel_rfl) (by kernel_rfl) (by kernel_rfl) (Or.inl ⟨by rfl, fun w hSw => (by have x0 := (HRN.out _ (kept_trans HB3.out hSw)).2.1; have x1 := (HRN.out _ (kept_trans HB3.out hSw)).2.2; go_simp; try with_reducible rfl)⟩) (by with_reducible exact HD.out) ?_
          try simp only [Act.put, List.setIfInBounds_toArray, List.set_cons_zero, List.set_cons_succ]
          refine anyU_take2 (i := 6) (v := .slice (some ⟨gl, off, none⟩) n c) (by simp only [List.getElem?_toArray, List.getElem?_cons_succ, List.getElem?_cons_zero]; exact rfl) (by kernel_rfl) 12 (by kernel_rfl) (by kernel_rfl) (fun _ _ _ h => h) (by kernel_rfl) (by kernel_rfl) (by kernel_rfl) (by kernel_rfl) (Or.inl ⟨by rfl, fun w hSw => (by go_simp; try with_reducible rfl)⟩) (by with_reducible exact HD.out) ?_
          try simp only [Act.put, List.setIfInBounds_toArray, List.set_cons_zero, List.set_cons_succ]
          refine anyU_take2 (i := 7) (v := .int .i64 (k : Nat)) (by simp only [List.getElem?_toArray, List.getElem?_cons_succ, List.getElem?_cons_zero]; exact rfl) (by kernel_rfl) 12 (by kernel_rfl) (by kernel_rfl) (fun _ _ _ h => h) (by kernel_rfl) (by kernel_rfl) (by kernel_rfl) (by kernel_rfl) (Or.inl ⟨by rfl, fun w hSw => (by go_simp; try with_reducible rfl)⟩) (by with_reducible exact HD.out) ?_
          try simp only [Act.put, List.setIfInBounds_toArray, List.set_cons_zero, List.set_cons_succ]
          refine anyU_take2 (i := 8) (v := .pointer (some ⟨gl, off + k * 31, none⟩)) (by simp only [List.getElem?_toArray, List.getElem?_cons_succ, List.getElem?_cons_zero]; exact rfl) (by kernel_rfl) 12 (by kernel_rfl) (by kernel_rfl) (fun _ _ _ h => h) (by kernel_rfl) (by kernel_rfl) (by kernel_rfl) (by kernel_rfl) (Or.inl ⟨by rfl, fun w hSw => (by go_simp; try with_reducible rfl)⟩) (by with_reducible exact HD.out) ?_
          try simp only [Act.put, List.setIfInBounds_toArray, List.set_cons_zero, List.set_cons_succ]
          refine anyU_take2 (i := 9) (v := .pointer (some ⟨gl, off + k * 31 + 3, none⟩)) (by simp only [List.getElem?_toArray, List.getElem?_cons_succ, List.getElem?_cons_zero]; exact rfl) (by kernel_rfl) 12 (by kernel_rfl) (by kernel_rfl) (fun _ _ _ h => h) (by kernel_rfl) (by kernel_rfl) (by kernel_rfl) (by kernel_rfl) (Or.inl ⟨by rfl, fun w hSw => (by go_simp; try with_reducible rfl)⟩) (by with_reducible exact HD.out) ?_
          try simp only [Act.put, List.setIfInBounds_toArray, List.set_cons_zero, List.set_cons_succ]
          refine anyU_take2 (i := 10) (v := .agg (clC a.c)) (by simp only [List.getElem?_toArray, List.getElem?_cons_succ, List.getElem?_cons_zero]; exact rfl) (by kernel_rfl) 12 (by kernel_rfl) (by kernel_rfl) (fun _ _ _ h => h) (by kernel_rfl) (by kernel_rfl) (by kernel_rfl) (by kernel_rfl) (Or.inl ⟨by rfl, fun w hSw => exec_load_gp rfl rfl (HRN.out _ (kept_trans HB3.out hSw)).1 ce_under rfl (by rw [Cl.len h8]; exact ce_info)⟩) (by with_reducible exact HD.out) ?_
          try simp only [Act.put, List.setIfInBounds_toArray, List.set_cons_zero, List.set_cons_succ]
          refine anyU_one (i := 11) (by kernel_rfl) (by simp only [List.getElem?_toArray, List.getElem?_cons_succ, List.getElem?_cons_zero]; exact rfl) (fun K hK => ?_)
          try go_simp
          refine (HST.out _ HR.out.rl.pg).mono ?_
          rintro e w4 ⟨rfl, hp, hk⟩
          replace HR := hide (HR.out.set hp hk)
          clear hp hk
          refine hK.out _ _ (fun e _ => absurd rfl e) ?_
          clear hK K
          try simp only [Act.put]
          refine anyU_done (by kernel_rfl) ?_
          refine NoPanic.normal ?_
          try simp only [Act.put]
          go_wp2
          go_roundw
          case rel => exact ⟨k + 1, x', by omega, by omega, by go_num, HL2, HR⟩
          case measure => simp [intOf]; omega
      · have hend : ¬ ((k : Int) < (n : Int) ∧ (k : Int) < 40) := by omega
        by_cases h1 : (k : Int) < (n : Int)
        · have h2 : ¬ (k : Int) < 40 := fun h => hend ⟨h1, h⟩
          clear hend
          go_wp2
          go_meet
          exact ⟨x, hide (Nat.le_trans HL.out hk40), HR⟩
        · clear hend
          go_wp2
          go_meet
          exact ⟨x, hide (Nat.le_trans HL.out hk40), HR⟩
  case rest =>
  clear HR
  obtain ⟨x, HL, HR⟩ := hcut
  obtain ⟨t0, t1, t2, t3, t4, t5, t6, ht⟩ := seven (topL_len HR.out.rl.pg.kl)
  have HTP := hide (show ∀ w, Pg w g b x → Calls Try.prog 10 #[.pointer (some ⟨g, 0, none⟩)] w fun e w' => e = .returned (.agg #[.int .i64 t0, .int .i64 t1, .int .i64 t2, .int .i64 t3, .int .i64 t4, .int .i64 t5, .int .i64 t6]) ∧ Below w.heap.size w w' from fun w h => by
    have h1 := ptop_any h
    rw [ht] at h1
    exact h1)
  go_upto_region 10 with (first
    | (go_at_call 10; (with_reducible refine (HTP.out _ HR.out.rl.pg).mono ?_); rintro e w5 ⟨rfl, hb⟩; replace HR := hide (HR.out.below hb); clear hb))
  have HT := hide (show T1 W (w5.alloc (.cells #[.int .i64 t0, .int .i64 t1, .int .i64 t2, .int .i64 t3, .int .i64 t4, .int .i64 t5, .int .i64 t6] 25)) g b x w5.heap.size [t0, t1, t2, t3, t4, t5, t6] from ⟨(HR.out.below (kept_alloc (kept_refl w5) _)).rl, Row.new w5 _ _⟩)
  replace HR := hide (HR.out.below (kept_alloc (kept_refl w5) (.cells #[.int .i64 t0, .int .i64 t1, .int .i64 t2, .int .i64 t3, .int .i64 t4, .int .i64 t5, .int .i64 t6] 25)))
  generalize w5.alloc (.cells #[.int .i64 t0, .int .i64 t1, .int .i64 t2, .int .i64 t3, .int .i64 t4, .int .i64 t5, .int .i64 t6] 25) = w6 at HT HR ⊢
  generalize w5.heap.size = bt at HT ⊢
  have HTR := hide (show ∀ w, Pg w g b x → Calls Try.prog 11 #[.pointer (some ⟨g, 0, none⟩), .agg #[.int .i64 p0, .int .i64 p1, .int .i64 p2, .int .i64 p3, .int .i64 p4, .int .i64 p5, .int .i64 p6]] w fun e w' => e = .returned (.tuple #[]) ∧ Pg w' g b (trimL x [p0, p1, p2, p3, p4, p5, p6]) ∧ Kq (fun k => k = g ∨ k = b) w w' from fun w h => ptrim_any (u := [p0, p1, p2, p3, p4, p5, p6]) h rfl)
  have HTQ := hide (tq_trim HR.out.rl.pg.kl [p0, p1, p2, p3, p4, p5, p6])
  have HX1 := hide (trim_twice HR.out.rl.pg.kl [p0, p1, p2, p3, p4, p5, p6])
  have HX2 := hide (trim_zero (HR.out.rl.pg.kl.trim [p0, p1, p2, p3, p4, p5, p6]))
  have HLE := hide (show (trimL x [p0, p1, p2, p3, p4, p5, p6]).k.length ≤ 40 from Nat.le_trans (trim_len _ _) HL.out)
  have HK1 := hide (HR.out.rl.pg.kl.trim [p0, p1, p2, p3, p4, p5, p6])
  rw [ht] at HTQ
  generalize trimL x [p0, p1, p2, p3, p4, p5, p6] = x1 at HTR HTQ HX1 HX2 HLE HK1
  have u0' : w6.cell? ⟨bu, 0, none⟩ = some (.int .i64 p0) := HR.out.ru.cell 0
  have u1' : w6.cell? ⟨bu, 1, none⟩ = some (.int .i64 p1) := HR.out.ru.cell 1
  have u2' : w6.cell? ⟨bu, 2, none⟩ = some (.int .i64 p2) := HR.out.ru.cell 2
  have u3' : w6.cell? ⟨bu, 3, none⟩ = some (.int .i64 p3) := HR.out.ru.cell 3
  have u4' : w6.cell? ⟨bu, 4, none⟩ = some (.int .i64 p4) := HR.out.ru.cell 4
  have u5' : w6.cell? ⟨bu, 5, none⟩ = some (.int .i64 p5) := HR.out.ru.cell 5
  have u6' : w6.cell? ⟨bu, 6, none⟩ = some (.int .i64 p6) := HR.out.ru.cell 6
  go_upto_region 11 with (first
    | (go_at_call 11; (with_reducible refine (HTR.out _ HR.out.rl.pg).mono ?_); rintro e w7 ⟨rfl, hp, hk⟩; replace HR := hide (HR.out.trim hp hk); replace HT := hide (HT.out.trim hp hk); clear hp hk))
  clear u0' u1' u2' u3' u4' u5' u6' HTR HTP ht HL
  obtain ⟨c0, c1, c2, c3, c4, c5, c6, hcd⟩ := seven HK1.out.d7
  have HCU := hide (show ∀ w, Pg w g b x1 → Calls Try.prog 22 #[.pointer (some ⟨g, 0, none⟩)] w fun e w' => e = .returned (.agg #[.int .i64 c0, .int .i64 c1, .int .i64 c2, .int .i64 c3, .int .i64 c4, .int .i64 c5, .int .i64 c6]) ∧ Below w.heap.size w w' from fun w h => by
    have h1 := pcut_any h
    rw [hcd] at h1
    exact h1)
  have HCD := hide hcd
  have hx40 : x1.k.length ≤ 1000000000 := by have := HLE.out; omega
  have HLS := hide (fun w (h : Pg w g b x1) => plist_own h hx40)
  clear hcd
  go_upto_region 12 with (first
    | (go_at_call 22; (with_reducible refine (HCU.out _ HR.out.rl.pg).mono ?_); rintro e w8 ⟨rfl, hb⟩; replace HR := hide (HR.out.below hb); replace HT := hide (HT.out.below hb); clear hb)
    | (go_at_call 12; (with_reducible refine (HLS.out _ HR.out.rl.pg).mono ?_); rintro e w9 ⟨v, rfl, ho, hb⟩; replace HR := hide (HR.out.below hb); replace HT := hide (HT.out.below hb); have HO := hide ho; clear hb ho))
  obtain ⟨A2, cp, hv, _⟩ := own_ls HO.out
  subst hv
  have HE := hide (show T2 W (w9.alloc (.cells #[.int .i64 c0, .int .i64 c1, .int .i64 c2, .int .i64 c3, .int .i64 c4, .int .i64 c5, .int .i64 c6] 25)) g b x1 bu [p0, p1, p2, p3, p4, p5, p6] bt [t0, t1, t2, t3, t4, t5, t6] w9.heap.size (.slice A2 (x1.k.map Lc.i).length cp) (x1.k.map Lc.i) from
    ⟨HR.out.below (kept_alloc (kept_refl w9) _), (HT.out.below (kept_alloc (kept_refl w9) _)).ru, (show Row (w9.alloc (.cells #[.int .i64 c0, .int .i64 c1, .int .i64 c2, .int .i64 c3, .int .i64 c4, .int .i64 c5, .int .i64 c6] 25)) w9.heap.size 25 (cA x1.d) by rw [HCD.out]; exact Row.new w9 _ _), (Kq.of_below (o := fun _ => False) (kept_alloc (kept_refl w9) _)).own HO.out (fun _ _ e => e)⟩)
  generalize w9.alloc (.cells #[.int .i64 c0, .int .i64 c1, .int .i64 c2, .int .i64 c3, .int .i64 c4, .int .i64 c5, .int .i64 c6] 25) = wa at HE ⊢
  generalize w9.heap.size = bc at HE ⊢
  clear HR HT HO
  have hlen : (x1.k.map Lc.i).length = x1.k.length := List.length_map _
  have HLN := hide hlen
  obtain ⟨m, hm⟩ : ∃ m, (x1.k.map Lc.i).length = m := ⟨_, rfl⟩
  rw [hm] at HE ⊢
  have HM := hide hm
  have hm40 : m ≤ 40 := by have := HLE.out; omega
  clear hm hlen
  go_upto_block 2 with (fail)
  go_cut [10] from 54 to 95 (fun _ wx => Hid (T2 W wx g b x1 bu [p0, p1, p2, p3, p4, p5, p6] bt [t0, t1, t2, t3, t4, t5, t6] bc (.slice A2 m cp) (x1.k.map Lc.i)))
  case first =>
    go_wp2
    go_loopw [10] (fun i wr => ∃ k : Nat, k ≤ m ∧ i = .int .i64 k ∧ Hid (T2 W wr g b x1 bu [p0, p1, p2, p3, p4, p5, p6] bt [t0, t1, t2, t3, t4, t5, t6] bc (.slice A2 m cp) (x1.k.map Lc.i))) (fun i _ => m - (intOf i).toNat)
    case atStart => exact ⟨0, Nat.zero_le _, rfl, HE⟩
    case round =>
      clear HE
      obtain ⟨k, hk, rfl, HE⟩ := hrel
      by_cases hlt : k < m
      · have hlti : (k : Int) < (m : Int) := by omega
        obtain ⟨e, he⟩ : ∃ e, x1.k[k]? = some e := ⟨_, List.getElem?_eq_getElem (by have := HM.out; have := HLN.out; omega)⟩
        obtain ⟨r, hr7, hr, hs1, hs2, hg⟩ := HTQ.out.el e (List.mem_of_getElem? he)
        obtain ⟨A3, c3', hv, hits⟩ := own_ls (by have h := HE.out.own; exact h : wr.ownsRow 0 28 2 (.slice A2 m cp) (x1.k.map Lc.i).length (cellsP (x1.k.map Lc.i)))
        have hA : A3 = A2 := by injection hv with h1 _ _; exact h1.symm
        subst hA
        obtain ⟨q, off, rfl, hq, hcl⟩ := hits.at_ (k := k) (x := [e.i.1, e.i.2]) (by unfold prs; rw [List.getElem?_map, List.getElem?_map, he]; rfl)
        have hl0 : wr.cell? ⟨q, off + k * 2, none⟩ = some (.int .i64 e.i.1) := hcl 0 (by omega)
        have hl1 : wr.cell? ⟨q, off + k * 2 + 1, none⟩ = some (.int .i64 e.i.2) := hcl 1 (by omega)
        have hd0 : wr.cell? ⟨bc, r, none⟩ = some (.int .i64 (ix x1.d r)) := row_cA HE.out.rc r (by rw [HK1.out.d7]; exact hr7)
        have ht0 : wr.cell? ⟨bt, r, none⟩ = some (.int .i64 (ix [t0, t1, t2, t3, t4, t5, t6] r)) := row_cA HE.out.rt r hr7
        have HGO := hide (fun w (h : Pg w g b x1) => pgone_any h e.i.1 e.i.2)
        rw [show (e.i.1, e.i.2) = e.i from rfl, hg] at HGO
        rw [hr] at hl0 HGO
        generalize ix x1.d r = dd at hd0 hs1
        generalize ix [t0, t1, t2, t3, t4, t5, t6] r = tt at ht0 hs2
        generalize e.i.2 = s at hl1 hs1 hs2 HGO
        have L0 := hide hl0
        have L1 := hide hl1
        have D0 := hide hd0
        have T0 := hide ht0
        have hs1' : ¬ s ≤ dd := by omega
        have hs2' : ¬ s > tt := by omega
        have hr7' : (r : Int) < 7 := by omega
        clear hv hits hq hcl hl0 hl1 hd0 ht0 hg hr he hs1 hs2
        have HP := hide (fun wz (hz : Below wr.heap.size wr wz) => (HE.out.t1.rl.below hz).pg)
        go_upto_region 15 with (fail)
        have HB0 : Below wr.heap.size wr wr := kept_refl wr
        refine wp_region_sp (fun w' => Below wr.heap.size wr w') (by kernel_rfl) (by kernel_rfl) (show Below wr.heap.size wr wr.drew from kept_drewN HB0 1) ?_
        generalize hS : (fun w' => Below wr.heap.size wr w') = S
        have l0 : ∀ z : Sp S, z.w.cell? ⟨q, off + k * 2, none⟩ = some (.int .i64 (r : Nat)) := by subst hS; exact fun z => below_some z.ok L0.out
        have l1 : ∀ z : Sp S, z.w.cell? ⟨q, off + k * 2 + 1, none⟩ = some (.int .i64 s) := by subst hS; exact fun z => below_some z.ok L1.out
        have l2 : ∀ z : Sp S, z.w.cell? ⟨bc, r, none⟩ = some (.int .i64 dd) := by subst hS; exact fun z => below_some z.ok D0.out
        have l3 : ∀ z : Sp S, z.w.cell? ⟨bt, r, none⟩ = some (.int .i64 tt) := by subst hS; exact fun z => below_some z.ok T0.out
        have ne : Nonempty (Sp S) := by subst hS; exact ⟨⟨_, HB0⟩⟩
        have STEP := hide (show ∀ w w', S w → Below w.heap.size w w' → S w' by subst hS; exact fun _ _ h hb => kept_trans h hb)
        have OLD := hide (show ∀ z : Sp S, Below wr.heap.size wr z.w by subst hS; exact fun z => z.ok)
        clear HB0 hS
        repeat (go_big_quiet_step (first | (go_at_call 13; with_reducible exact sp_call STEP.out _ (HGO.out _ (HP.out _ (OLD.out _))))))
        refine wpQuiet_nil ?_
        intro kk
        have OK := hide (OLD.out kk)
        generalize kk.w = wk at OK ⊢
        clear l0 l1 l2 l3 ne OLD STEP
        go_wp2
        go_roundw
        case rel => exact ⟨k + 1, by omega, by go_num, hide (HE.out.below OK.out)⟩
        case measure => simp [intOf]; omega
      · have hlti : ¬ (k : Int) < (m : Int) := by omega
        go_wp2
        go_meet
        exact HE
  case rest =>
  clear HE
  have HE := hcut
  clear hcut
  obtain ⟨n0, n1, n2, n3, n4, n5, n6, hnn⟩ := seven (topL_len HK1.out)
  have HTN := hide (show ∀ r, r < 7 → ix [n0, n1, n2, n3, n4, n5, n6] r = max (ix [t0, t1, t2, t3, t4, t5, t6] r) (ix x1.d r) by rw [← hnn]; exact HTQ.out.tp)
  have HTP := hide (show ∀ w, Pg w g b x1 → Calls Try.prog 10 #[.pointer (some ⟨g, 0, none⟩)] w fun e w' => e = .returned (.agg #[.int .i64 n0, .int .i64 n1, .int .i64 n2, .int .i64 n3, .int .i64 n4, .int .i64 n5, .int .i64 n6]) ∧ Below w.heap.size w w' from fun w h => by
    have h1 := ptop_any h
    rw [hnn] at h1
    exact h1)
  clear hnn
  go_upto_region 18 with (first
    | (go_at_call 10; (with_reducible refine (HTP.out _ HE.out.t1.rl.pg).mono ?_); rintro e wb ⟨rfl, hb⟩; replace HE := hide (HE.out.below hb); clear hb))
  have HNR := hide (Row.new wb 25 #[.int .i64 n0, .int .i64 n1, .int .i64 n2, .int .i64 n3, .int .i64 n4, .int .i64 n5, .int .i64 n6])
  replace HE := hide (HE.out.below (kept_alloc (kept_refl wb) (.cells #[.int .i64 n0, .int .i64 n1, .int .i64 n2, .int .i64 n3, .int .i64 n4, .int .i64 n5, .int .i64 n6] 25)))
  generalize wb.alloc (.cells #[.int .i64 n0, .int .i64 n1, .int .i64 n2, .int .i64 n3, .int .i64 n4, .int .i64 n5, .int .i64 n6] 25) = wc at HNR HE ⊢
  generalize wb.heap.size = bn at HNR ⊢
  clear HTP
  go_upto_block 4 with (fail)
  go_cut [12] from 98 to 124 (fun _ wx => Hid (T2 W wx g b x1 bu [p0, p1, p2, p3, p4, p5, p6] bt [t0, t1, t2, t3, t4, t5, t6] bc (.slice A2 m cp) (x1.k.map Lc.i)))
  case first =>
    go_wp2
    go_loopw [12] (fun i wr => ∃ k : Nat, k ≤ 7 ∧ i = .int .i64 k ∧ Hid (T2 W wr g b x1 bu [p0, p1, p2, p3, p4, p5, p6] bt [t0, t1, t2, t3, t4, t5, t6] bc (.slice A2 m cp) (x1.k.map Lc.i)) ∧ Hid (Row wr bn 25 #[.int .i64 n0, .int .i64 n1, .int .i64 n2, .int .i64 n3, .int .i64 n4, .int .i64 n5, .int .i64 n6])) (fun i _ => 7 - (intOf i).toNat)
    case atStart => exact ⟨0, Nat.zero_le _, rfl, HE, HNR⟩
    case round =>
      clear HE HNR
      obtain ⟨k, hk, rfl, HE, HNR⟩ := hrel
      by_cases hlt : k < 7
      · have hlti : (k : Int) < 7 := by omega
        have hd0 : wr.cell? ⟨bc, k, none⟩ = some (.int .i64 (ix x1.d k)) := row_cA HE.out.rc k (by rw [HK1.out.d7]; exact hlt)
        have ht0 : wr.cell? ⟨bt, k, none⟩ = some (.int .i64 (ix [t0, t1, t2, t3, t4, t5, t6] k)) := row_cA HE.out.rt k hlt
        have hn0 : wr.cell? ⟨bn, k, none⟩ = some (.int .i64 (ix [n0, n1, n2, n3, n4, n5, n6] k)) := row_cA (x := [n0, n1, n2, n3, n4, n5, n6]) HNR.out k hlt
        rw [HTN.out k hlt] at hn0
        obtain ⟨hlo, hhi⟩ := HTQ.out.lo k hlt
        generalize ix x1.d k = dd at hd0 hn0 hlo hhi
        generalize ix [t0, t1, t2, t3, t4, t5, t6] k = tt at ht0 hn0
        have N0 := hide hn0
        have D0 := hide hd0
        have T0 := hide ht0
        have hlo' : ¬ dd < 0 := by omega
        have hhi' : ¬ dd > 1073741824 := by omega
        clear hd0 ht0 hn0 hlo hhi
        go_upto_region 21 with (fail)
        have HB0 : Below wr.heap.size wr wr := kept_refl wr
        refine wp_region_sp (fun w' => Below wr.heap.size wr w') (by kernel_rfl) (by kernel_rfl) (show Below wr.heap.size wr wr.drew from kept_drewN HB0 1) ?_
        generalize hS : (fun w' => Below wr.heap.size wr w') = S
        have l0 : ∀ z : Sp S, z.w.cell? ⟨bn, k, none⟩ = some (.int .i64 (max tt dd)) := by subst hS; exact fun z => below_some z.ok N0.out
        have l1 : ∀ z : Sp S, z.w.cell? ⟨bc, k, none⟩ = some (.int .i64 dd) := by subst hS; exact fun z => below_some z.ok D0.out
        have l2 : ∀ z : Sp S, z.w.cell? ⟨bt, k, none⟩ = some (.int .i64 tt) := by subst hS; exact fun z => below_some z.ok T0.out
        have ne : Nonempty (Sp S) := by subst hS; exact ⟨⟨_, HB0⟩⟩
        have STEP := hide (show ∀ w w', S w → Below w.heap.size w w' → S w' by subst hS; exact fun _ _ h hb => kept_trans h hb)
        have OLD := hide (show ∀ z : Sp S, Below wr.heap.size wr z.w by subst hS; exact fun z => z.ok)
        clear HB0 hS
        repeat (go_big_quiet_step (fail))
        refine wpQuiet_nil ?_
        intro kk
        have OK := hide (OLD.out kk)
        generalize kk.w = wk at OK ⊢
        clear l0 l1 l2 ne OLD STEP
        go_wp2
        go_roundw
        case rel => exact ⟨k + 1, by omega, by go_num, hide (HE.out.below OK.out), hide (HNR.out.below OK.out HNR.out.lt)⟩
        case measure => simp [intOf]; omega
      · have hlti : ¬ (k : Int) < 7 := by omega
        go_wp2
        go_meet
        exact HE
  case rest =>
  clear HE HNR
  have HE := hcut
  clear hcut
  obtain ⟨u0', u1', u2', u3', u4', u5', u6'⟩ := cells7 HE.out.t1.ru
  have HTR := hide (show ∀ w, Pg w g b x1 → Calls Try.prog 11 #[.pointer (some ⟨g, 0, none⟩), .agg #[.int .i64 p0, .int .i64 p1, .int .i64 p2, .int .i64 p3, .int .i64 p4, .int .i64 p5, .int .i64 p6]] w fun e w' => e = .returned (.tuple #[]) ∧ Pg w' g b x1 ∧ Kq (fun k => k = g ∨ k = b) w w' from fun w h => by
    have h1 := ptrim_any (u := [p0, p1, p2, p3, p4, p5, p6]) h rfl
    rw [HX1.out] at h1
    exact h1)
  have HTZ := hide (show ∀ w, Pg w g b x1 → Calls Try.prog 11 #[.pointer (some ⟨g, 0, none⟩), .agg #[.int .i64 0, .int .i64 0, .int .i64 0, .int .i64 0, .int .i64 0, .int .i64 0, .int .i64 0]] w fun e w' => e = .returned (.tuple #[]) ∧ Pg w' g b x1 ∧ Kq (fun k => k = g ∨ k = b) w w' from fun w h => by
    have h1 := ptrim_any (u := zero7) h rfl
    rw [HX2.out] at h1
    exact h1)
  go_upto_region 25 with (first
    | (go_at_call 11; (with_reducible refine (HTR.out _ HE.out.t1.rl.pg).mono ?_); rintro e wd ⟨rfl, hp, hk⟩; replace HE := hide (HE.out.trim hp hk); clear hp hk)
    | (go_at_call 11; (with_reducible refine (HTZ.out _ HE.out.t1.rl.pg).mono ?_); rintro e we ⟨rfl, hp, hk⟩; replace HE := hide (HE.out.trim hp hk); clear hp hk))
  clear HTR HTZ u0' u1' u2' u3' u4' u5' u6'
  have hde := fun w => eql_deps c0 c1 c2 c3 c4 c5 c6 c0 c1 c2 c3 c4 c5 c6 w
  simp only [decide_true] at hde
  have HRC := hide (fun (wq : World) (h : Below we.heap.size we wq) => (show Row wq bc 25 #[.int .i64 c0, .int .i64 c1, .int .i64 c2, .int .i64 c3, .int .i64 c4, .int .i64 c5, .int .i64 c6] by have r := (HE.out.below h).rc; rw [HCD.out] at r; exact r))
  refine wp_region_noPanic ?_
  refine wp_region_U 13 (fun wz => Below we.heap.size we wz) (by kernel_rfl) ?_
  have HD := hide (show Below we.heap.size we we.drew from kept_drewN (kept_refl _) 1)
  replace HE := hide (HE.out.below HD.out)
  generalize we.drew = wf at HD HE ⊢
  refine anyU_take2 (i := 0) (v := .pointer (some ⟨g, 0, none⟩)) (by simp only [List.getElem?_toArray, List.getElem?_cons_zero]; exact rfl) (by kernel_rfl) 12 (by kernel_rfl) (by kernel_rfl) (fun _ _ _ h => h) (by kernel_rfl) (by kernel_rfl) (by kernel_rfl) (by kernel_rfl) (Or.inl ⟨by rfl, fun w hSw => (by go_simp; try with_reducible rfl)⟩) (by with_reducible exact HD.out) ?_
  try simp only [Act.put, List.setIfInBounds_toArray, List.set_cons_zero, List.set_cons_succ]
  refine anyU_take2 (i := 2) (v := .agg #[.int .i64 c0, .int .i64 c1, .int .i64 c2, .int .i64 c3, .int .i64 c4, .int .i64 c5, .int .i64 c6]) (by simp only [List.getElem?_toArray, List.getElem?_cons_succ, List.getElem?_cons_zero]; exact rfl) (by kernel_rfl) 12 (by kernel_rfl) (by kernel_rfl) (fun _ _ _ h => h) (by kernel_rfl) (by kernel_rfl) (by kernel_rfl) (by kernel_rfl) (Or.inl ⟨by rfl, fun w hSw => (by have r := HRC.out _ hSw; have x0 : w.cell? ⟨bc, 0, none⟩ = some (.int .i64 c0) := r.cell 0; have x1 : w.cell? ⟨bc, 1, none⟩ = some (.int .i64 c1) := r.cell 1; have x2 : w.cell? ⟨bc, 2, none⟩ = some (.int .i64 c2) := r.cell 2; have x3 : w.cell? ⟨bc, 3, none⟩ = some (.int .i64 c3) := r.cell 3; have x4 : w.cell? ⟨bc, 4, none⟩ = some (.int .i64 c4) := r.cell 4; have x5 : w.cell? ⟨bc, 5, none⟩ = some (.int .i64 c5) := r.cell 5; have x6 : w.cell? ⟨bc, 6, none⟩ = some (.int .i64 c6) := r.cell 6; go_simp; try with_reducible rfl)⟩) (by with_reducible exact HD.out) ?_
  try simp only [Act.put, List.setIfInBounds_toArray, List.set_cons_zero, List.set_cons_succ]
  refine anyU_one (i := 1) (by kernel_rfl) (by simp only [List.getElem?_toArray, List.getElem?_cons_succ, List.getElem?_cons_zero]; exact rfl) (fun K hK => ?_)
  try go_simp
  refine (HCU.out _ HE.out.t1.rl.pg).mono ?_
  rintro e wg ⟨rfl, hb⟩
  replace HD := hide (kept_trans HD.out hb)
  replace HE := hide (HE.out.below hb)
  clear hb
  refine hK.out _ _ (fun _ _ => HD.out) ?_
  clear hK K
  try simp only [Act.put, List.setIfInBounds_toArray, List.set_cons_zero, List.set_cons_succ]
  refine anyU_take2 (i := 3) (v := .bool true) (by simp only [List.getElem?_toArray, List.getElem?_cons_succ, List.getElem?_cons_zero]; exact rfl) (by kernel_rfl) 12 (by kernel_rfl) (by kernel_rfl) (fun _ _ _ h => h) (by kernel_rfl) (by kernel_rfl) (by kernel_rfl) (by kernel_rfl) (Or.inl ⟨by rfl, fun w hSw => (by go_simp; first | done | exact hde _ | (rw [hde]; done) | (simp only [hde]; done))⟩) (by with_reducible exact HD.out) ?_
  try simp only [Act.put, List.setIfInBounds_toArray, List.set_cons_zero, List.set_cons_succ]
  refine anyU_take2 (i := 4) (v := .bool true) (by simp only [List.getElem?_toArray, List.getElem?_cons_succ, List.getElem?_cons_zero]; exact rfl) (by kernel_rfl) 12 (by kernel_rfl) (by kernel_rfl) (fun _ _ _ h => h) (by kernel_rfl) (by kernel_rfl) (by kernel_rfl) (by kernel_rfl) (Or.inl ⟨by rfl, fun w hSw => (by go_simp; try with_reducible rfl)⟩) (by with_reducible exact HD.out) ?_
  try simp only [Act.put, List.setIfInBounds_toArray, List.set_cons_zero, List.set_cons_succ]
  refine anyU_take2 (i := 5) (v := .pointer (some ⟨g, 0, none⟩)) (by simp only [List.getElem?_toArray, List.getElem?_cons_succ, List.getElem?_cons_zero]; exact rfl) (by kernel_rfl) 12 (by kernel_rfl) (by kernel_rfl) (fun _ _ _ h => h) (by kernel_rfl) (by kernel_rfl) (by kernel_rfl) (by kernel_rfl) (Or.inl ⟨by rfl, fun w hSw => (by go_simp; try with_reducible rfl)⟩) (by with_reducible exact HD.out) ?_
  try simp only [Act.put, List.setIfInBounds_toArray, List.set_cons_zero, List.set_cons_succ]
  refine anyU_take2 (i := 7) (v := .slice A2 m cp) (by simp only [List.getElem?_toArray, List.getElem?_cons_succ, List.getElem?_cons_zero]; exact rfl) (by kernel_rfl) 12 (by kernel_rfl) (by kernel_rfl) (fun _ _ _ h => h) (by kernel_rfl) (by kernel_rfl) (by kernel_rfl) (by kernel_rfl) (Or.inl ⟨by rfl, fun w hSw => (by go_simp; try with_reducible rfl)⟩) (by with_reducible exact HD.out) ?_
  try simp only [Act.put, List.setIfInBounds_toArray, List.set_cons_zero, List.set_cons_succ]
  refine anyU_one (i := 6) (by kernel_rfl) (by simp only [List.getElem?_toArray, List.getElem?_cons_succ, List.getElem?_cons_zero]; exact rfl) (fun K hK => ?_)
  try go_simp
  refine (HLS.out _ HE.out.t1.rl.pg).mono ?_
  rintro e wh ⟨v2, rfl, ho, hb⟩
  replace HD := hide (kept_trans HD.out hb)
  replace HE := hide (HE.out.below hb)
  have HO2 := hide (own_ls ho)
  clear ho
  clear hb
  refine hK.out _ _ (fun _ _ => HD.out) ?_
  clear hK K
  try simp only [Act.put, List.setIfInBounds_toArray, List.set_cons_zero, List.set_cons_succ]
  refine anyU_one (i := 8) (by kernel_rfl) (by simp only [List.getElem?_toArray, List.getElem?_cons_succ, List.getElem?_cons_zero]; exact rfl) (fun K hK => ?_)
  try go_simp
  have hsa := same_ls HO2.out HE.out.ls (by have := HLE.out; have := HLN.out; omega) (by have := HLE.out; have := HLN.out; omega)
  simp only [decide_true] at hsa
  have HSA := hide hsa
  clear hsa
  refine (HSA.out).mono ?_
  rintro e wi ⟨rfl, hb⟩
  replace HD := hide (kept_trans HD.out hb)
  replace HE := hide (HE.out.below hb)
  clear hb
  refine hK.out _ _ (fun _ _ => HD.out) ?_
  clear hK K
  try simp only [Act.put, List.setIfInBounds_toArray, List.set_cons_zero, List.set_cons_succ]
  refine anyU_take2 (i := 9) (v := .bool true) (by simp only [List.getElem?_toArray, List.getElem?_cons_succ, List.getElem?_cons_zero]; exact rfl) (by kernel_rfl) 12 (by kernel_rfl) (by kernel_rfl) (fun _ _ _ h => h) (by kernel_rfl) (by kernel_rfl) (by kernel_rfl) (by kernel_rfl) (Or.inl ⟨by rfl, fun w hSw => (by go_simp; try with_reducible rfl)⟩) (by with_reducible exact HD.out) ?_
  try simp only [Act.put, List.setIfInBounds_toArray, List.set_cons_zero, List.set_cons_succ]
  refine anyU_take2 (i := 10) (v := .bool true) (by simp only [List.getElem?_toArray, List.getElem?_cons_succ, List.getElem?_cons_zero]; exact rfl) (by kernel_rfl) 12 (by kernel_rfl) (by kernel_rfl) (fun _ _ _ h => h) (by kernel_rfl) (by kernel_rfl) (by kernel_rfl) (by kernel_rfl) (Or.inl ⟨by rfl, fun w hSw => (by go_simp; try with_reducible rfl)⟩) (by with_reducible exact HD.out) ?_
  try simp only [Act.put, List.setIfInBounds_toArray, List.set_cons_zero, List.set_cons_succ]
  refine anyU_one (i := 11) (by kernel_rfl) (by simp only [List.getElem?_toArray, List.getElem?_cons_succ, List.getElem?_cons_zero]; exact rfl) (fun K hK => ?_)
  try go_simp
  refine (runs_any _).mono ?_
  rintro e wj ⟨rfl, hb⟩
  replace HD := hide (kept_trans HD.out hb)
  replace HE := hide (HE.out.below hb)
  clear hb
  refine hK.out _ _ (fun _ _ => HD.out) ?_
  clear hK K
  try simp only [Act.put, List.setIfInBounds_toArray, List.set_cons_zero, List.set_cons_succ]
  refine anyU_take2 (i := 12) (v := .bool true) (by simp only [List.getElem?_toArray, List.getElem?_cons_succ, List.getElem?_cons_zero]; exact rfl) (by kernel_rfl) 12 (by kernel_rfl) (by kernel_rfl) (fun _ _ _ h => h) (by kernel_rfl) (by kernel_rfl) (by kernel_rfl) (by kernel_rfl) (Or.inl ⟨by rfl, fun w hSw => (by go_simp; try with_reducible rfl)⟩) (by with_reducible exact HD.out) ?_
  try simp only [Act.put, List.setIfInBounds_toArray, List.set_cons_zero, List.set_cons_succ]
  refine anyU_one (i := 13) (by kernel_rfl) (by simp only [List.getElem?_toArray, List.getElem?_cons_succ, List.getElem?_cons_zero]; exact rfl) (fun K hK => ?_)
  try go_simp
  refine hK.out _ _ (fun e _ => absurd rfl e) ?_
  clear hK K
  try simp only [Act.put]
  refine anyU_done (by kernel_rfl) ?_
  refine NoPanic.normal ?_
  try simp only [Act.put]
  go_wp2
  go_ret
  exact ⟨rfl, HE.out.t1.rl.low⟩
set_option maxRecDepth 100000 in
theorem lifted (os : Os) (started : os.Started) (H : Type) (enc : TypeId × Value → H) :
    ReturnsInHanded {} Try.checked os 6 .any (Rows.logTopsSpec.pre6 enc Try.prog Try.f6 Rows.logTopsRow.domain false) (Rows.logTopsSpec.post enc Try.prog Try.f6 false true false false) := by
  refine returnsInHanded_of_change_sized (C := Try.checked) own started (by kernel_rfl) Try.func6
    (ChangeSpec.witness6 (enc := enc) (C := Try.checked) false ⟨#[], #[.slice none 0 0, .agg #[.int .i64 0, .int .i64 0, .int .i64 0, .int .i64 0, .int .i64 0, .int .i64 0, .int .i64 0]], []⟩ 8 (by kernel_rfl) (by kernel_rfl) (by kernel_rfl) (by kernel_rfl)) ?_
  intro W base args ds gs before hval0 hW _ hsz0 _
  have hval : ∀ (j : Nat) t v, Try.f6.params[j]? = some t → args[j]? = some v → Value.okWide Try.prog W .any base t v := hval0
  have hW' := hW
  obtain ⟨p, q, hA0, hV, rfl, _, _⟩ := hW
  have hA : DataW.TrodAll enc Try.prog W 0 (fun _ => true) true Try.f6.params.toList args.toList ds p := hA0
  have hsz : (DataW.weightsEach Try.prog (Try.f6.params.toList ++ Rows.logTopsSpec.plain.varTypes Try.prog) (ds ++ gs)).all (· ≤ reachBytes) = true := hsz0
  rw [Try.params6] at hA hval hsz
  obtain ⟨v0, vs0, d0, ds0, p0, q0, hargs, rfl, rfl, h0, r0⟩ := trodAll_cons hA
  obtain ⟨v1, vs1, d1, ds1, p1, q1, rfl, rfl, rfl, h1, r1⟩ := trodAll_cons r0
  obtain ⟨rfl, rfl, rfl⟩ := trodAll_nil r1
  obtain rfl : args = #[v0, v1] := by cases args; simp_all
  obtain ⟨rfl, rfl⟩ := trodVars_none hV
  have k0 := h0
  have lt0 : ∀ x ∈ p0, x.block < W.heap.size := by obtain ⟨m, hm⟩ := k0; exact DataW.trod_lt m _ _ _ hm
  obtain ⟨A0, n0, c0, rfl⟩ := okWide_slice Try.underlying44 (hval 0 44 v0 rfl rfl)
  obtain ⟨z0, s0⟩ := gasks_in (j := 0) h0 hsz rfl rfl
  have k1 := h1
  have lt1 : ∀ x ∈ p1, x.block < W.heap.size := by obtain ⟨m, hm⟩ := k1; exact DataW.trod_lt m _ _ _ hm
  obtain ⟨e1x1, e1x2, e1x3, e1x4, e1x5, e1x6, e1x7, rfl, s1⟩ := deps_in (hval 1 25 v1 rfl rfl) h1
  clear hA0 hval0
  refine (walk A0 n0 c0 z0 e1x1 e1x2 e1x3 e1x4 e1x5 e1x6 e1x7 W s0 s1).mono fun e W' ⟨he, bel⟩ => ?_
  subst he
  exact ⟨_, rfl, _, _, _, [], _, [], hW', trodAll_mk1 (shut_bool Try.underlying4 _), (trodAll_cons_mk (Below.trod laidOut (by kernel_rfl) (of_decide_eq_true (by kernel_rfl)) k0 bel lt0) (trodAll_cons_mk (Below.trod laidOut (by kernel_rfl) (of_decide_eq_true (by kernel_rfl)) k1 bel lt1) trodAll_mk0)), rfl, bel.frame _, fun h => by cases h⟩
theorem over : Rows.logTopsRow.holds Try.pinned (OpenSpec.ofChange Rows.logTopsSpec) :=
  OpenClaim.holds_of_wide 6 Try.f6 rfl rfl rfl rfl rfl rfl rfl ⟨rfl, rfl, rfl, rfl, rfl⟩ rfl rfl rfl rfl rfl (by kernel_rfl) Try.func6 (by kernel_rfl)
    (of_decide_eq_true (by kernel_rfl)) (by unfold Func.isWrapper; first | (rw [if_pos (by decide +kernel)]; kernel_rfl) | (rw [if_neg (by decide +kernel)]; exact ⟨rfl, rfl⟩))
    (fun os started H enc _ => lifted os started H enc)
theorem proved : Rows.LogTopsSaid := over
end Go.Proofs.Ytiaegloipnhhdaa.logTops
