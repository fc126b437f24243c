/- The law's alike. Conditions: both logs lie in memory and hold the same; they hold few. -/
import Derived.Test.YtiaegloipnhhdaaWx
import Derived.Test.YtiaegloipnhhdaaWo
import Derived.Test.YtiaegloipnhhdaaWm
import Derived.Test.YtiaegloipnhhdaaWf
import Derived.Test.YtiaegloipnhhdaaWa
import Derived.LoopTactic
import Derived.Deep.CutBlock
import Derived.Test.YtiaegloipnhhdaaVy
namespace Go.Proofs.Ytiaegloipnhhdaa
set_option maxRecDepth 100000
open Go.RowKit Go.Maps
theorem rep_ok {x : Lw} (h : Kl x) {e : Lc} (he : e ∈ x.k) : Ok e.i := by
  have h1 := (h.ok e he).1
  unfold rightI repB at h1
  simp only [Bool.and_eq_true, decide_eq_true_eq] at h1
  constructor <;> constructor <;> omega
set_option maxHeartbeats 64000000 in
theorem alike_any {base g b h : Nat} {w : World} {x : Lw} {vI vC : Value} (hp : Pg w g b x) (hr : Ro base w h vI vC x.k x.d) (hl : x.k.length ≤ 1000) :
    Calls Try.prog 15 #[.pointer (some ⟨g, 0, none⟩), .pointer (some ⟨h, 0, none⟩)] w fun e w' => e = .returned (.bool true) ∧ Below w.heap.size w w' := by
  obtain ⟨A, a, B, bb, rfl, rfl, _, _⟩ := hr.form
  have HA := hide (fun (wz : World) (k : Below w.heap.size w wz) => (⟨hp.below k, hr.below k⟩ : Pg wz g b x ∧ Ro base wz h (.slice A x.k.length a) (.slice B x.k.length bb) x.k x.d))
  have HKL := hide hp.kl
  obtain ⟨c0, c1, c2, c3, c4, c5, c6, hcd⟩ := seven hp.kl.d7
  obtain ⟨t0, t1, t2, t3, t4, t5, t6, ht⟩ := seven (topL_len hp.kl)
  have HCU := hide (show ∀ w, Pg w g b x → Calls Try.prog 22 #[.pointer (some ⟨g, 0, none⟩)] w fun e w' => e = .returned (.agg #[.int .i64 c0, .int .i64 c1, .int .i64 c2, .int .i64 c3, .int .i64 c4, .int .i64 c5, .int .i64 c6]) ∧ Below w.heap.size w w' from fun w h => by
    have h1 := pcut_any h
    rw [hcd] at h1
    exact h1)
  have HTP := hide (show ∀ w, Pg w g b x → Calls Try.prog 10 #[.pointer (some ⟨g, 0, none⟩)] w fun e w' => e = .returned (.agg #[.int .i64 t0, .int .i64 t1, .int .i64 t2, .int .i64 t3, .int .i64 t4, .int .i64 t5, .int .i64 t6]) ∧ Below w.heap.size w w' from fun w h => by
    have h1 := ptop_any h
    rw [ht] at h1
    exact h1)
  have HTR := hide (show ∀ w, Ro base w h (.slice A x.k.length a) (.slice B x.k.length bb) x.k x.d → Calls Try.prog 35 #[.pointer (some ⟨h, 0, none⟩)] w fun e w' => e = .returned (.agg #[.int .i64 t0, .int .i64 t1, .int .i64 t2, .int .i64 t3, .int .i64 t4, .int .i64 t5, .int .i64 t6]) ∧ Below w.heap.size w w' from fun w h => by
    have h1 := rtop_any h (fun e he => HKL.out.rep he) (by omega)
    rw [show x.k.foldl topE x.d = topL x from rfl, ht] at h1
    exact h1)
  have hx9 : x.k.length ≤ 1000000000 := by omega
  have HLS := hide (fun w (h : Pg w g b x) => plist_own h hx9)
  have HCL := hide (fun w (h : Pg w g b x) (i : Int × Int) (hi : Ok i) => pcell_any h i.1 i.2 hi)
  have hde := fun w => neq_deps c0 c1 c2 c3 c4 c5 c6 c0 c1 c2 c3 c4 c5 c6 w
  have hdt := fun w => neq_deps t0 t1 t2 t3 t4 t5 t6 t0 t1 t2 t3 t4 t5 t6 w
  simp only [decide_true, Bool.not_true] at hde hdt
  have HCD := hide hcd
  clear hp hr hcd ht
  go_enter Try.func15, Try.ntmps15
  go_upto_region 1 with (fail)
  go_cut [31] from 8 to 30 (fun s31 wx => s31 = .bool false ∧ Hid (Below w.heap.size w wx))
  case first =>
    refine wp_region_noPanic ?_
    refine wp_region_U 23 (fun wz => Below w.heap.size w wz) (by kernel_rfl) ?_
    have HD := hide (show Below w.heap.size w w.drew from kept_drewN (kept_refl _) 1)
    generalize w.drew = wd at HD ⊢
    refine anyU_take2 (i := 0) (v := .pointer (some ⟨g, 0, none⟩)) (by simp only [List.getElem?_toArray, List.getElem?_cons_zero]; exact rfl) (by kernel_rfl) 12 (by kernel_rfl) (by kernel_rfl) (fun _ _ _ h => h) (by kernel_rfl) (by kernel_rfl) (by kernel_rfl) (by kernel_rfl) (Or.inl ⟨by rfl, fun w hSw => (by go_simp; try with_reducible rfl)⟩) (by with_reducible exact HD.out) ?_
    try simp only [Act.put, List.setIfInBounds_toArray, List.set_cons_zero, List.set_cons_succ]
    refine anyU_take2 (i := 2) (v := .pointer (some ⟨h, 0, none⟩)) (by simp only [List.getElem?_toArray, List.getElem?_cons_succ, List.getElem?_cons_zero]; exact rfl) (by kernel_rfl) 12 (by kernel_rfl) (by kernel_rfl) (fun _ _ _ h => h) (by kernel_rfl) (by kernel_rfl) (by kernel_rfl) (by kernel_rfl) (Or.inl ⟨by rfl, fun w hSw => (by go_simp; try with_reducible rfl)⟩) (by with_reducible exact HD.out) ?_
    try simp only [Act.put, List.setIfInBounds_toArray, List.set_cons_zero, List.set_cons_succ]
    refine anyU_take2 (i := 3) (v := .pointer (some ⟨h, 0, none⟩)) (by simp only [List.getElem?_toArray, List.getElem?_cons_succ, List.getElem?_cons_zero]; exact rfl) (by kernel_rfl) 12 (by kernel_rfl) (by kernel_rfl) (fun _ _ _ h => h) (by kernel_rfl) (by kernel_rfl) (by kernel_rfl) (by kernel_rfl) (Or.inl ⟨by rfl, fun w hSw => (by go_simp; try with_reducible rfl)⟩) (by with_reducible exact HD.out) ?_
    try simp only [Act.put, List.setIfInBounds_toArray, List.set_cons_zero, List.set_cons_succ]
    refine anyU_take2 (i := 4) (v := .pointer (some ⟨h, 0, none⟩)) (by simp only [List.getElem?_toArray, List.getElem?_cons_succ, List.getElem?_cons_zero]; exact rfl) (by kernel_rfl) 12 (by kernel_rfl) (by kernel_rfl) (fun _ _ _ h => h) (by kernel_rfl) (by kernel_rfl) (by kernel_rfl) (by kernel_rfl) (Or.inl ⟨by rfl, fun w hSw => (by go_simp; try with_reducible rfl)⟩) (by with_reducible exact HD.out) ?_
    try simp only [Act.put, List.setIfInBounds_toArray, List.set_cons_zero, List.set_cons_succ]
    refine anyU_take2 (i := 5) (v := .slice A x.k.length a) (by simp only [List.getElem?_toArray, List.getElem?_cons_succ, List.getElem?_cons_zero]; exact rfl) (by kernel_rfl) 12 (by kernel_rfl) (by kernel_rfl) (fun _ _ _ h => h) (by kernel_rfl) (by kernel_rfl) (by kernel_rfl) (by kernel_rfl) (Or.inl ⟨by rfl, fun w hSw => (by have x0 := (HA.out _ hSw).2.c0; go_simp; try with_reducible rfl)⟩) (by with_reducible exact HD.out) ?_
    try simp only [Act.put, List.setIfInBounds_toArray, List.set_cons_zero, List.set_cons_succ]
    refine anyU_one (i := 1) (by kernel_rfl) (by simp only [List.getElem?_toArray, List.getElem?_cons_succ, List.getElem?_cons_zero]; exact rfl) (fun K hK => ?_)
    try go_simp
    refine (HLS.out _ (HA.out _ HD.out).1).mono ?_
    rintro e w2 ⟨v, rfl, ho, hb⟩
    replace HD := hide (kept_trans HD.out hb)
    have HO := hide (own_ls ho)
    clear ho
    clear hb
    refine hK.out _ _ (fun _ _ => HD.out) ?_
    clear hK K
    try simp only [Act.put, List.setIfInBounds_toArray, List.set_cons_zero, List.set_cons_succ]
    refine anyU_one (i := 6) (by kernel_rfl) (by simp only [List.getElem?_toArray, List.getElem?_cons_succ, List.getElem?_cons_zero]; exact rfl) (fun K hK => ?_)
    try go_simp
    have hsa := same_ls HO.out (rw_ls (HA.out _ HD.out).2.ri) (by rw [List.length_map]; omega) (by rw [List.length_map]; omega)
    simp only [decide_true] at hsa
    have HSA := hide hsa
    clear hsa
    refine (HSA.out).mono ?_
    rintro e w3 ⟨rfl, hb⟩
    replace HD := hide (kept_trans HD.out hb)
    clear hb
    clear HSA HO
    refine hK.out _ _ (fun _ _ => HD.out) ?_
    clear hK K
    try simp only [Act.put, List.setIfInBounds_toArray, List.set_cons_zero, List.set_cons_succ]
    refine anyU_take2 (i := 7) (v := .bool false) (by simp only [List.getElem?_toArray, List.getElem?_cons_succ, List.getElem?_cons_zero]; exact rfl) (by kernel_rfl) 12 (by kernel_rfl) (by kernel_rfl) (fun _ _ _ h => h) (by kernel_rfl) (by kernel_rfl) (by kernel_rfl) (by kernel_rfl) (Or.inl ⟨by rfl, fun w hSw => (by go_simp; try with_reducible rfl)⟩) (by with_reducible exact HD.out) ?_
    try simp only [Act.put, List.setIfInBounds_toArray, List.set_cons_zero, List.set_cons_succ]
    refine anyU_take2 (i := 8) (v := .bool false) (by simp only [List.getElem?_toArray, List.getElem?_cons_succ, List.getElem?_cons_zero]; exact rfl) (by kernel_rfl) 12 (by kernel_rfl) (by kernel_rfl) (fun _ _ _ h => h) (by kernel_rfl) (by kernel_rfl) (by kernel_rfl) (by kernel_rfl) (Or.inl ⟨by rfl, fun w hSw => (by go_simp; try with_reducible rfl)⟩) (by with_reducible exact HD.out) ?_
    try simp only [Act.put, List.setIfInBounds_toArray, List.set_cons_zero, List.set_cons_succ]
    refine anyU_take2 (i := 9) (v := .pointer (some ⟨g, 0, none⟩)) (by simp only [List.getElem?_toArray, List.getElem?_cons_succ, List.getElem?_cons_zero]; exact rfl) (by kernel_rfl) 12 (by kernel_rfl) (by kernel_rfl) (fun _ _ _ h => h) (by kernel_rfl) (by kernel_rfl) (by kernel_rfl) (by kernel_rfl) (Or.inl ⟨by rfl, fun w hSw => (by go_simp; try with_reducible rfl)⟩) (by with_reducible exact HD.out) ?_
    try simp only [Act.put, List.setIfInBounds_toArray, List.set_cons_zero, List.set_cons_succ]
    refine anyU_take2 (i := 11) (v := .pointer (some ⟨h, 0, none⟩)) (by simp only [List.getElem?_toArray, List.getElem?_cons_succ, List.getElem?_cons_zero]; exact rfl) (by kernel_rfl) 12 (by kernel_rfl) (by kernel_rfl) (fun _ _ _ h => h) (by kernel_rfl) (by kernel_rfl) (by kernel_rfl) (by kernel_rfl) (Or.inl ⟨by rfl, fun w hSw => (by go_simp; try with_reducible rfl)⟩) (by with_reducible exact HD.out) ?_
    try simp only [Act.put, List.setIfInBounds_toArray, List.set_cons_zero, List.set_cons_succ]
    refine anyU_take2 (i := 12) (v := .pointer (some ⟨h, 0, none⟩)) (by simp only [List.getElem?_toArray, List.getElem?_cons_succ, List.getElem?_cons_zero]; exact rfl) (by kernel_rfl) 12 (by kernel_rfl) (by kernel_rfl) (fun _ _ _ h => h) (by kernel_rfl) (by kernel_rfl) (by kernel_rfl) (by kernel_rfl) (Or.inl ⟨by rfl, fun w hSw => (by go_simp; try with_reducible rfl)⟩) (by with_reducible exact HD.out) ?_
    try simp only [Act.put, List.setIfInBounds_toArray, List.set_cons_zero, List.set_cons_succ]
    refine anyU_take2 (i := 13) (v := .pointer (some ⟨h, 2, none⟩)) (by simp only [List.getElem?_toArray, List.getElem?_cons_succ, List.getElem?_cons_zero]; exact rfl) (by kernel_rfl) 12 (by kernel_rfl) (by kernel_rfl) (fun _ _ _ h => h) (by kernel_rfl) (by kernel_rfl) (by kernel_rfl) (by kernel_rfl) (Or.inl ⟨by rfl, fun w hSw => (by go_simp; try with_reducible rfl)⟩) (by with_reducible exact HD.out) ?_
    try simp only [Act.put, List.setIfInBounds_toArray, List.set_cons_zero, List.set_cons_succ]
    refine anyU_take2 (i := 14) (v := .agg #[.int .i64 c0, .int .i64 c1, .int .i64 c2, .int .i64 c3, .int .i64 c4, .int .i64 c5, .int .i64 c6]) (by simp only [List.getElem?_toArray, List.getElem?_cons_succ, List.getElem?_cons_zero]; exact rfl) (by kernel_rfl) 12 (by kernel_rfl) (by kernel_rfl) (fun _ _ _ h => h) (by kernel_rfl) (by kernel_rfl) (by kernel_rfl) (by kernel_rfl) (Or.inl ⟨by rfl, fun w hSw => exec_load_gp rfl rfl (by have r := (HA.out _ hSw).2.cuts; rw [HCD.out] at r; exact r : w.rangeAt h 2 (cellsR [c0, c1, c2, c3, c4, c5, c6])) Try.underlying25 rfl (by kernel_rfl)⟩) (by with_reducible exact HD.out) ?_
    try simp only [Act.put, List.setIfInBounds_toArray, List.set_cons_zero, List.set_cons_succ]
    refine anyU_one (i := 10) (by kernel_rfl) (by simp only [List.getElem?_toArray, List.getElem?_cons_succ, List.getElem?_cons_zero]; exact rfl) (fun K hK => ?_)
    try go_simp
    refine (HCU.out _ (HA.out _ HD.out).1).mono ?_
    rintro e w4 ⟨rfl, hb⟩
    replace HD := hide (kept_trans HD.out hb)
    clear hb
    refine hK.out _ _ (fun _ _ => HD.out) ?_
    clear hK K
    try simp only [Act.put, List.setIfInBounds_toArray, List.set_cons_zero, List.set_cons_succ]
    refine anyU_take2 (i := 15) (v := .bool false) (by simp only [List.getElem?_toArray, List.getElem?_cons_succ, List.getElem?_cons_zero]; exact rfl) (by kernel_rfl) 12 (by kernel_rfl) (by kernel_rfl) (fun _ _ _ h => h) (by kernel_rfl) (by kernel_rfl) (by kernel_rfl) (by kernel_rfl) (Or.inl ⟨by rfl, fun w hSw => (by go_simp; first | done | exact hde _ | (rw [hde]; done) | (simp only [hde]; done))⟩) (by with_reducible exact HD.out) ?_
    try simp only [Act.put, List.setIfInBounds_toArray, List.set_cons_zero, List.set_cons_succ]
    refine anyU_take2 (i := 16) (v := .bool false) (by simp only [List.getElem?_toArray, List.getElem?_cons_succ, List.getElem?_cons_zero]; exact rfl) (by kernel_rfl) 12 (by kernel_rfl) (by kernel_rfl) (fun _ _ _ h => h) (by kernel_rfl) (by kernel_rfl) (by kernel_rfl) (by kernel_rfl) (Or.inl ⟨by rfl, fun w hSw => (by go_simp; try with_reducible rfl)⟩) (by with_reducible exact HD.out) ?_
    try simp only [Act.put, List.setIfInBounds_toArray, List.set_cons_zero, List.set_cons_succ]
    refine anyU_take2 (i := 17) (v := .bool false) (by simp only [List.getElem?_toArray, List.getElem?_cons_succ, List.getElem?_cons_zero]; exact rfl) (by kernel_rfl) 12 (by kernel_rfl) (by kernel_rfl) (fun _ _ _ h => h) (by kernel_rfl) (by kernel_rfl) (by kernel_rfl) (by kernel_rfl) (Or.inl ⟨by rfl, fun w hSw => (by go_simp; try with_reducible rfl)⟩) (by with_reducible exact HD.out) ?_
    try simp only [Act.put, List.setIfInBounds_toArray, List.set_cons_zero, List.set_cons_succ]
    refine anyU_take2 (i := 18) (v := .pointer (some ⟨g, 0, none⟩)) (by simp only [List.getElem?_toArray, List.getElem?_cons_succ, List.getElem?_cons_zero]; exact rfl) (by kernel_rfl) 12 (by kernel_rfl) (by kernel_rfl) (fun _ _ _ h => h) (by kernel_rfl) (by kernel_rfl) (by kernel_rfl) (by kernel_rfl) (Or.inl ⟨by rfl, fun w hSw => (by go_simp; try with_reducible rfl)⟩) (by with_reducible exact HD.out) ?_
    try simp only [Act.put, List.setIfInBounds_toArray, List.set_cons_zero, List.set_cons_succ]
    refine anyU_take2 (i := 20) (v := .pointer (some ⟨h, 0, none⟩)) (by simp only [List.getElem?_toArray, List.getElem?_cons_succ, List.getElem?_cons_zero]; exact rfl) (by kernel_rfl) 12 (by kernel_rfl) (by kernel_rfl) (fun _ _ _ h => h) (by kernel_rfl) (by kernel_rfl) (by kernel_rfl) (by kernel_rfl) (Or.inl ⟨by rfl, fun w hSw => (by go_simp; try with_reducible rfl)⟩) (by with_reducible exact HD.out) ?_
    try simp only [Act.put, List.setIfInBounds_toArray, List.set_cons_zero, List.set_cons_succ]
    refine anyU_one (i := 19) (by kernel_rfl) (by simp only [List.getElem?_toArray, List.getElem?_cons_succ, List.getElem?_cons_zero]; exact rfl) (fun K hK => ?_)
    try go_simp
    refine (HTP.out _ (HA.out _ HD.out).1).mono ?_
    rintro e w5 ⟨rfl, hb⟩
    replace HD := hide (kept_trans HD.out hb)
    clear hb
    refine hK.out _ _ (fun _ _ => HD.out) ?_
    clear hK K
    try simp only [Act.put, List.setIfInBounds_toArray, List.set_cons_zero, List.set_cons_succ]
    refine anyU_one (i := 21) (by kernel_rfl) (by simp only [List.getElem?_toArray, List.getElem?_cons_succ, List.getElem?_cons_zero]; exact rfl) (fun K hK => ?_)
    try go_simp
    refine (HTR.out _ (HA.out _ HD.out).2).mono ?_
    rintro e w6 ⟨rfl, hb⟩
    replace HD := hide (kept_trans HD.out hb)
    clear hb
    refine hK.out _ _ (fun _ _ => HD.out) ?_
    clear hK K
    try simp only [Act.put, List.setIfInBounds_toArray, List.set_cons_zero, List.set_cons_succ]
    refine anyU_take2 (i := 22) (v := .bool false) (by simp only [List.getElem?_toArray, List.getElem?_cons_succ, List.getElem?_cons_zero]; exact rfl) (by kernel_rfl) 12 (by kernel_rfl) (by kernel_rfl) (fun _ _ _ h => h) (by kernel_rfl) (by kernel_rfl) (by kernel_rfl) (by kernel_rfl) (Or.inl ⟨by rfl, fun w hSw => (by go_simp; first | done | exact hdt _ | (rw [hdt]; done) | (simp only [hdt]; done))⟩) (by with_reducible exact HD.out) ?_
    try simp only [Act.put, List.setIfInBounds_toArray, List.set_cons_zero, List.set_cons_succ]
    refine anyU_one (i := 23) (by kernel_rfl) (by simp only [List.getElem?_toArray, List.getElem?_cons_succ, List.getElem?_cons_zero]; exact rfl) (fun K hK => ?_)
    try go_simp
    refine hK.out _ _ (fun e _ => absurd rfl e) ?_
    clear hK K
    try simp only [Act.put]
    refine anyU_done (by kernel_rfl) ?_
    refine NoPanic.normal ?_
    try simp only [Act.put]
    go_wp2
    go_meet
    exact ⟨rfl, HD⟩
  case rest =>
  obtain ⟨rfl, HB⟩ := hcut
  clear HLS HCU HTP HTR hde hdt HCD
  go_wp2
  go_loopw [5] (fun i wr => ∃ k : Nat, k ≤ x.k.length ∧ i = .int .i64 k ∧ Hid (Below w.heap.size w wr)) (fun i _ => x.k.length - (intOf i).toNat)
  case atStart => exact ⟨0, Nat.zero_le _, rfl, HB⟩
  case round =>
    clear HB
    obtain ⟨k, hk, rfl, HB⟩ := hrel
    have x0 := (HA.out _ HB.out).2.c0
    by_cases hlt : k < x.k.length
    · have hlti : (k : Int) < (x.k.length : Int) := by omega
      obtain ⟨e, he⟩ : ∃ e, x.k[k]? = some e := ⟨_, List.getElem?_eq_getElem hlt⟩
      obtain ⟨gI, gC, rfl, rfl, e0, e1, hrg, _, _⟩ := (HA.out _ HB.out).2.at_ he
      have hcell := cell_some HKL.out.up he
      obtain ⟨_, _, _, h8⟩ := HKL.out.ok e (List.mem_of_getElem? he)
      have HCC := hide (show ∀ wz, Pg wz g b x → Calls Try.prog 18 #[.pointer (some ⟨g, 0, none⟩), .agg #[.int .i64 e.i.1, .int .i64 e.i.2]] wz fun y w' => y = .returned (.tuple #[.agg (clC e.c), .bool true]) ∧ Below wz.heap.size wz w' from fun wz hz => by
        have h1 := HCL.out wz hz e.i (rep_ok HKL.out (List.mem_of_getElem? he))
        rw [show (e.i.1, e.i.2) = e.i from rfl, hcell] at h1
        exact h1)
      clear hcell
      go_upto_region 7 with (first
        | (go_at_call 18; (with_reducible refine (HCC.out _ (HA.out _ HB.out).1).mono ?_); rintro y w7 ⟨rfl, hb⟩; have HB7 := hide (kept_trans HB.out hb); clear hb x0 e0 e1)
        | ((with_reducible refine wpList_store_new (vs := clC e.c) ?_ ?_ (cl_all _) ?_ ?_ ?_); exact ce_size h8; (rw [clC_size h8]; rfl); (first | rfl | (simp; done)); rfl))
      try dsimp only [Act.put]
      have HN := hide (CeAt.new h8 w7 37)
      have HB8 := hide (kept_trans HB7.out (kept_alloc (kept_refl w7) (.cells (clC e.c) 37)))
      generalize w7.alloc (.cells (clC e.c) 37) = w8 at HN HB8 ⊢
      generalize w7.heap.size = q at HN ⊢
      have hne := fun w => neq_cell (x := e.c) (y := e.c) h8 h8 w
      rw [show sameCl e.c e.c = true from sameCl_iff.2 rfl] at hne
      simp only [Bool.not_true] at hne
      have HRG := hide (fun (wz : World) (z : Below w8.heap.size w8 wz) => (show wz.cell? ⟨h, 1, none⟩ = some (.slice (some ⟨gC, 0, none⟩) x.k.length bb) ∧ wz.rangeAt gC (k * 21) e.c.l from by
        have r := (HA.out _ (kept_trans HB8.out z)).2
        obtain ⟨gI', gC', h1, h2, _, _, h3, _, _⟩ := r.at_ he
        cases h2
        exact ⟨r.c1, h3⟩))
      clear hrg he
      refine wp_region_noPanic ?_
      refine wp_region_U 12 (fun wz => Below w8.heap.size w8 wz) (by kernel_rfl) ?_
      have HD := hide (show Below w8.heap.size w8 w8.drew from kept_drewN (kept_refl _) 1)
      generalize w8.drew = wd at HD ⊢
      refine anyU_take2 (i := 0) (v := .bool true) (by simp only [List.getElem?_toArray, List.getElem?_cons_zero]; exact rfl) (by kernel_rfl) 12 (by kernel_rfl) (by kernel_rfl) (fun _ _ _ h => h) (by kernel_rfl) (by kernel_rfl) (by kernel_rfl) (by kernel_rfl) (Or.inl ⟨by rfl, fun w hSw => (by go_simp; try with_reducible rfl)⟩) (by with_reducible exact HD.out) ?_
      try simp only [Act.put, List.setIfInBounds_toArray, List.set_cons_zero, List.set_cons_succ]
      refine anyU_take2 (i := 1) (v := .bool false) (by simp only [List.getElem?_toArray, List.getElem?_cons_succ, List.getElem?_cons_zero]; exact rfl) (by kernel_rfl) 12 (by kernel_rfl) (by kernel_rfl) (fun _ _ _ h => h) (by kernel_rfl) (by kernel_rfl) (by kernel_rfl) (by kernel_rfl) (Or.inl ⟨by rfl, fun w hSw => (by go_simp; try with_reducible rfl)⟩) (by with_reducible exact HD.out) ?_
      try simp only [Act.put, List.setIfInBounds_toArray, List.set_cons_zero, List.set_cons_succ]
      refine anyU_take2 (i := 2) (v := .bool false) (by simp only [List.getElem?_toArray, List.getElem?_cons_succ, List.getElem?_cons_zero]; exact rfl) (by kernel_rfl) 12 (by kernel_rfl) (by kernel_rfl) (fun _ _ _ h => h) (by kernel_rfl) (by kernel_rfl) (by kernel_rfl) (by kernel_rfl) (Or.inl ⟨by rfl, fun w hSw => (by go_simp; try with_reducible rfl)⟩) (by with_reducible exact HD.out) ?_
      try simp only [Act.put, List.setIfInBounds_toArray, List.set_cons_zero, List.set_cons_succ]
      refine anyU_take2 (i := 3) (v := .agg (clC e.c)) (by simp only [List.getElem?_toArray, List.getElem?_cons_succ, List.getElem?_cons_zero]; exact rfl) (by kernel_rfl) 12 (by kernel_rfl) (by kernel_rfl) (fun _ _ _ h => h) (by kernel_rfl) (by kernel_rfl) (by kernel_rfl) (by kernel_rfl) (Or.inl ⟨by rfl, fun w hSw => exec_load_gp rfl rfl (HN.out.kept hSw).all ce_under rfl (by rw [Cl.len h8]; exact ce_info)⟩) (by with_reducible exact HD.out) ?_
      try simp only [Act.put, List.setIfInBounds_toArray, List.set_cons_zero, List.set_cons_succ]
      refine anyU_take2 (i := 4) (v := .pointer (some ⟨h, 0, none⟩)) (by simp only [List.getElem?_toArray, List.getElem?_cons_succ, List.getElem?_cons_zero]; exact rfl) (by kernel_rfl) 12 (by kernel_rfl) (by kernel_rfl) (fun _ _ _ h => h) (by kernel_rfl) (by kernel_rfl) (by kernel_rfl) (by kernel_rfl) (Or.inl ⟨by rfl, fun w hSw => (by go_simp; try with_reducible rfl)⟩) (by with_reducible exact HD.out) ?_
      try simp only [Act.put, List.setIfInBounds_toArray, List.set_cons_zero, List.set_cons_succ]
      refine anyU_take2 (i := 5) (v := .pointer (some ⟨h, 0, none⟩)) (by simp only [List.getElem?_toArray, List.getElem?_cons_succ, List.getElem?_cons_zero]; exact rfl) (by kernel_rfl) 12 (by kernel_rfl) (by kernel_rfl) (fun _ _ _ h => h) (by kernel_rfl) (by kernel_rfl) (by kernel_rfl) (by kernel_rfl) (Or.inl ⟨by rfl, fun w hSw => (by go_simp; try with_reducible rfl)⟩) (by with_reducible exact HD.out) ?_
      try simp only [Act.put, List.setIfInBounds_toArray, List.set_cons_zero, List.set_cons_succ]
      refine anyU_take2 (i := 6) (v := .pointer (some ⟨h, 1, none⟩)) (by simp only [List.getElem?_toArray, List.getElem?_cons_succ, List.getElem?_cons_zero]; exact rfl) (by kernel_rfl) 12 (by kernel_rfl) (by kernel_rfl) (fun _ _ _ h => h) (by kernel_rfl) (by kernel_rfl) (by kernel_rfl) (by kernel_rfl) (Or.inl ⟨by rfl, fun w hSw => (by go_simp; try with_reducible rfl)⟩) (by with_reducible exact HD.out) ?_
      try simp only [Act.put, List.setIfInBounds_toArray, List.set_cons_zero, List.set_cons_succ]
      refine anyU_take2 (i := 7) (v := .slice (some ⟨gC, 0, none⟩) x.k.length bb) (by simp only [List.getElem?_toArray, List.getElem?_cons_succ, List.getElem?_cons_zero]; exact rfl) (by kernel_rfl) 12 (by kernel_rfl) (by kernel_rfl) (fun _ _ _ h => h) (by kernel_rfl) (by kernel_rfl) (by kernel_rfl) (by kernel_rfl) (Or.inl ⟨by rfl, fun w hSw => (by have x0 := (HRG.out _ hSw).1; go_simp; try with_reducible rfl)⟩) (by with_reducible exact HD.out) ?_
      try simp only [Act.put, List.setIfInBounds_toArray, List.set_cons_zero, List.set_cons_succ]
      refine anyU_take2 (i := 8) (v := .int .i64 (k : Nat)) (by simp only [List.getElem?_toArray, List.getElem?_cons_succ, List.getElem?_cons_zero]; exact rfl) (by kernel_rfl) 12 (by kernel_rfl) (by kernel_rfl) (fun _ _ _ h => h) (by kernel_rfl) (by kernel_rfl) (by kernel_rfl) (by kernel_rfl) (Or.inl ⟨by rfl, fun w hSw => (by go_simp; try with_reducible rfl)⟩) (by with_reducible exact HD.out) ?_
      try simp only [Act.put, List.setIfInBounds_toArray, List.set_cons_zero, List.set_cons_succ]
      refine anyU_take2 (i := 9) (v := .pointer (some ⟨gC, k * 21, none⟩)) (by simp only [List.getElem?_toArray, List.getElem?_cons_succ, List.getElem?_cons_zero]; exact rfl) (by kernel_rfl) 12 (by kernel_rfl) (by kernel_rfl) (fun _ _ _ h => h) (by kernel_rfl) (by kernel_rfl) (by kernel_rfl) (by kernel_rfl) (Or.inl ⟨by rfl, fun w hSw => (by go_simp; try with_reducible rfl)⟩) (by with_reducible exact HD.out) ?_
      try simp only [Act.put, List.setIfInBounds_toArray, List.set_cons_zero, List.set_cons_succ]
      refine anyU_take2 (i := 10) (v := .agg (clC e.c)) (by simp only [List.getElem?_toArray, List.getElem?_cons_succ, List.getElem?_cons_zero]; exact rfl) (by kernel_rfl) 12 (by kernel_rfl) (by kernel_rfl) (fun _ _ _ h => h) (by kernel_rfl) (by kernel_rfl) (by kernel_rfl) (by kernel_rfl) (Or.inl ⟨by rfl, fun w hSw => exec_load_gp rfl rfl (HRG.out _ hSw).2 ce_under rfl (by rw [Cl.len h8]; exact ce_info)⟩) (by with_reducible exact HD.out) ?_
      try simp only [Act.put, List.setIfInBounds_toArray, List.set_cons_zero, List.set_cons_succ]
      refine anyU_take2 (i := 11) (v := .bool false) (by simp only [List.getElem?_toArray, List.getElem?_cons_succ, List.getElem?_cons_zero]; exact rfl) (by kernel_rfl) 12 (by kernel_rfl) (by kernel_rfl) (fun _ _ _ h => h) (by kernel_rfl) (by kernel_rfl) (by kernel_rfl) (by kernel_rfl) (Or.inl ⟨by rfl, fun w hSw => (by go_simp; first | done | exact hne _ | (rw [hne]; done) | (simp only [hne]; done))⟩) (by with_reducible exact HD.out) ?_
      try simp only [Act.put, List.setIfInBounds_toArray, List.set_cons_zero, List.set_cons_succ]
      refine anyU_one (i := 12) (by kernel_rfl) (by simp only [List.getElem?_toArray, List.getElem?_cons_succ, List.getElem?_cons_zero]; exact rfl) (fun K hK => ?_)
      try go_simp
      refine hK.out _ _ (fun e _ => absurd rfl e) ?_
      clear hK K
      try simp only [Act.put]
      refine anyU_done (by kernel_rfl) ?_
      refine NoPanic.normal ?_
      try simp only [Act.put]
      go_wp2
      go_roundw
      case rel => exact ⟨k + 1, by omega, by go_num, hide (kept_trans HB8.out HD.out)⟩
      case measure => simp [intOf]; omega
    · have hlti : ¬ (k : Int) < (x.k.length : Int) := by omega
      go_wp2
      go_ret
      exact ⟨rfl, HB.out⟩
end Go.Proofs.Ytiaegloipnhhdaa
/- The program's log and the document's, side by side. Conditions: both lie in memory. -/
namespace Go.Proofs.Ytiaegloipnhhdaa
set_option maxRecDepth 100000
open Go.RowKit Go.Maps
/-- The program's log holds x, the document's y. -/
structure Bo (W w : World) (g b h : Nat) (vI vC : Value) (x y : Lw) : Prop where
  rl : Rl W w g b x
  ro : Ro W.heap.size w h vI vC y.k y.d
  hh : W.heap.size ≤ h
section
variable {W w w' : World} {g b h : Nat} {vI vC vI' vC' : Value} {x y x' y' : Lw}
theorem own_off {base n sz : Nat} {e : TypeId} {v : Value} {xs : List Value} (h : Rl W w g b x) (hne : 62 ≠ e) (ho : w.ownsRow base e sz v n xs) : ∀ k, v.ownBlock = some k → k ≠ g ∧ k ≠ b := by
  intro k hk
  rcases ho.2 with ⟨rfl, _⟩ | ⟨gg, cap, cur, rfl, _, hb, _⟩
  · cases hk
  · have e : gg = k := by simpa [Value.ownBlock] using hk
    subst e
    have r : Row w gg _ cur := hb
    have n1 := rows_ne h.pg.row r hne
    have n2 := h.pg.pm.off r
    omega
theorem Bo.far (o : Bo W w g b h vI vC x y) : ∀ j, roO h vI vC j → j ≠ g ∧ j ≠ b := by
  intro j hj
  rcases hj with rfl | hj | hj
  · have n1 := rows_ne o.rl.pg.row o.ro.row (by decide)
    have n2 := o.rl.pg.pm.off o.ro.row
    omega
  · exact own_off o.rl (by decide) o.ro.ri j hj
  · exact own_off o.rl (by decide) o.ro.rc j hj
theorem Bo.low (o : Bo W w g b h vI vC x y) : ∀ j, j < W.heap.size → ¬ roO h vI vC j := by
  intro j hl hj
  have hh := o.hh
  rcases hj with rfl | hj | hj
  · omega
  · have := (o.ro.ri.lt j hj).1; omega
  · have := (o.ro.rc.lt j hj).1; omega
theorem Bo.below (o : Bo W w g b h vI vC x y) (k : Below w.heap.size w w') : Bo W w' g b h vI vC x y := ⟨o.rl.below k, o.ro.below k, o.hh⟩
theorem Bo.pset (o : Bo W w g b h vI vC x y) (hp : Pg w' g b x') (k : Kq (fun k => k = b) w w') : Bo W w' g b h vI vC x' y :=
  ⟨o.rl.set hp k, o.ro.keep k (fun j hj e => (o.far j hj).2 e), o.hh⟩
theorem Bo.ptrim (o : Bo W w g b h vI vC x y) (hp : Pg w' g b x') (k : Kq (fun k => k = g ∨ k = b) w w') : Bo W w' g b h vI vC x' y :=
  ⟨o.rl.trim hp k, o.ro.keep k (fun j hj e => by have := o.far j hj; omega), o.hh⟩
theorem Bo.rset (o : Bo W w g b h vI vC x y) (hr : Ro W.heap.size w' h vI' vC' y'.k y'.d) (k : Kq (roO h vI vC) w w') : Bo W w' g b h vI' vC' x y' :=
  ⟨⟨k.below o.rl.low o.rl.low.size o.low, ⟨k.row o.rl.pg.row (fun e => (o.far g e).1 rfl), o.rl.pg.pm.kq k (fun e => (o.far b e).2 rfl), o.rl.pg.kl⟩, o.rl.hg, o.rl.hb⟩, hr, o.hh⟩
theorem Bo.rtrim (o : Bo W w g b h vI vC x y) (hr : Ro W.heap.size w' h vI' vC' y'.k y'.d) (k : Kq (fun b => b = h) w w') : Bo W w' g b h vI' vC' x y' :=
  o.rset hr (k.mono (fun _ e => .inl e))
end
theorem balike_any {W w : World} {g b h : Nat} {vI vC : Value} {x : Lw} (o : Bo W w g b h vI vC x x) (hl : x.k.length ≤ 1000) :
    Calls Try.prog 15 #[.pointer (some ⟨g, 0, none⟩), .pointer (some ⟨h, 0, none⟩)] w fun e w' => e = .returned (.bool true) ∧ Below w.heap.size w w' := alike_any o.rl.pg o.ro hl
theorem brset_any {W w : World} {g b h : Nat} {vI vC : Value} {x y : Lw} {c : Cl} (o : Bo W w g b h vI vC x y) (hk : Kl y) (h8 : c.a.length = 8) (hl : y.k.length ≤ 1000) (i1 i2 : Int) :
    Calls Try.prog 17 #[.pointer (some ⟨h, 0, none⟩), .agg #[.int .i64 i1, .int .i64 i2], .agg (clC c)] w fun e w' => e = .returned (.bool (maySet y (i1, i2) c)) ∧ ∃ vI' vC', Bo W w' g b h vI' vC' x (setL y (i1, i2) c) := by
  refine (rset_any o.ro hk.up o.rl.low.size h8 hl i1 i2).mono ?_
  rintro e w' ⟨rfl, ⟨vI', vC', hr⟩, k⟩
  refine ⟨rfl, vI', vC', o.rset ?_ k⟩
  rw [set_d]
  exact hr
theorem brtrim_any {W w : World} {g b h : Nat} {vI vC : Value} {x y : Lw} {u : List Int} (o : Bo W w g b h vI vC x y) (hu : u.length = 7) (hl : y.k.length ≤ 1000) :
    Calls Try.prog 14 #[.pointer (some ⟨h, 0, none⟩), .agg (cA u)] w fun e w' => e = .returned (.tuple #[]) ∧ ∃ vI' vC', Bo W w' g b h vI' vC' x (trimL y u) := by
  refine (rtrim_any o.ro o.rl.low.size hu hl).mono ?_
  rintro e w' ⟨rfl, ⟨vI', vC', hr⟩, k⟩
  exact ⟨rfl, vI', vC', o.rtrim hr k⟩
/-- .. and a call in a block of its own. -/
structure Bk (W w : World) (g b h : Nat) (vI vC : Value) (x y : Lw) (ba : Nat) (a : Ga) : Prop where
  bo : Bo W w g b h vI vC x y
  ga : GaAt w ba a
theorem Bk.below {W w w' : World} {g b h ba : Nat} {vI vC : Value} {x y : Lw} {a : Ga} (o : Bk W w g b h vI vC x y ba a) (k : Below w.heap.size w w') : Bk W w' g b h vI vC x y ba a := ⟨o.bo.below k, o.ga.kept k⟩
theorem Bk.pset {W w w' : World} {g b h ba : Nat} {vI vC : Value} {x x' y : Lw} {a : Ga} (o : Bk W w g b h vI vC x y ba a) (hp : Pg w' g b x') (k : Kq (fun k => k = b) w w') : Bk W w' g b h vI vC x' y ba a := ⟨o.bo.pset hp k, o.ga.set o.bo.rl.pg k⟩
theorem Bk.ptrim {W w w' : World} {g b h ba : Nat} {vI vC : Value} {x x' y : Lw} {a : Ga} (o : Bk W w g b h vI vC x y ba a) (hp : Pg w' g b x') (k : Kq (fun k => k = g ∨ k = b) w w') : Bk W w' g b h vI vC x' y ba a := by
  have n1 := rows_ne o.bo.rl.pg.row o.ga.r (by decide)
  have n2 := o.bo.rl.pg.pm.off o.ga.r
  exact ⟨o.bo.ptrim hp k, ⟨k.row o.ga.r (by omega), o.ga.ok⟩⟩
end Go.Proofs.Ytiaegloipnhhdaa
