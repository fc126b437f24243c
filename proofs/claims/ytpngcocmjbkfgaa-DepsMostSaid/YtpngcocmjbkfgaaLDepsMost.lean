/- Proved: the law DepsMost returns true. Conditions: none beyond the row's own. -/
import Derived.Test.YtpngcocmjbkfgaaFrame
import Derived.Test.YtpngcocmjbkfgaaRuns
import Derived.Test.YtpngcocmjbkfgaaArgs8
import Derived.Test.YtpngcocmjbkfgaaRefm
import Derived.Test.YtpngcocmjbkfgaaMostp
import Derived.Test.YtpngcocmjbkfgaaStep8
import Derived.Test.YtpngcocmjbkfgaaWithin
import Derived.Deep.CutBlock
import Derived.Deep.DeepCutAuto
namespace Go.Proofs.Ytpngcocmjbkfgaa.depsMost
open Go.ChangeShapes Go.WideShapes Go.ChangeAt Go.RowKit
/-- The slice, and what stands there most often in a block of its own. -/
structure Bm (W w : World) (g : Nat) (A : Option Addr) (l : List (List Int)) (x0 x1 x2 x3 x4 x5 x6 x7 : Int) : Prop where
  low : Below W.heap.size W w
  l : Its 8 w A l
  x : Row w g 25 #[.int .i64 x0, .int .i64 x1, .int .i64 x2, .int .i64 x3, .int .i64 x4, .int .i64 x5, .int .i64 x6, .int .i64 x7]
theorem Bm.step {W w w' : World} {g : Nat} {A : Option Addr} {l : List (List Int)} {x0 x1 x2 x3 x4 x5 x6 x7 : Int} (h : Bm W w g A l x0 x1 x2 x3 x4 x5 x6 x7) (hb : Below w.heap.size w w') : Bm W w' g A l x0 x1 x2 x3 x4 x5 x6 x7 := ⟨kept_trans h.low hb, h.l.below hb, h.x.below hb h.x.lt⟩
theorem Bm.drewN {W w : World} {g : Nat} {A : Option Addr} {l : List (List Int)} {x0 x1 x2 x3 x4 x5 x6 x7 : Int} (h : Bm W w g A l x0 x1 x2 x3 x4 x5 x6 x7) (n : Nat) : Bm W (w.drewN n) g A l x0 x1 x2 x3 x4 x5 x6 x7 := h.step (kept_drewN (kept_refl w) n)
/-- Below B w is as w0 was, and reaches as far. -/
structure Bq (B : Nat) (w0 w : World) : Prop where
  low : Below B w0 w
  sz : B ≤ w.heap.size
theorem Bq.alloc {B : Nat} {w0 w : World} (h : Bq B w0 w) (o : Obj) : Bq B w0 (w.alloc o) := ⟨h.low.alloc h.sz o, by have := h.sz; simp; omega⟩
theorem Bq.grown {B : Nat} {w0 w w' : World} {row : Option Nat} (h : Bq B w0 w) (hg : w.grownBy w' row) (hr : ∀ k, row = some k → B ≤ k) : Bq B w0 w' := ⟨h.low.grown hg h.sz hr, Nat.le_trans h.sz hg.size⟩
theorem Bq.below {B : Nat} {w0 w w' : World} (h : Bq B w0 w) (hb : Below w.heap.size w w') : Bq B w0 w' := ⟨h.low.trans (hb.mono h.sz), Nat.le_trans h.sz hb.size⟩
theorem Bq.eight {B : Nat} {w0 w : World} (h : Bq B w0 w) {g : Nat} (hg : B ≤ g) (v0 v1 v2 v3 v4 v5 v6 v7 : Value) :
    Bq B w0 ((((((((w.setCell ⟨g, 0, none⟩ v0).setCell ⟨g, 1, none⟩ v1).setCell ⟨g, 2, none⟩ v2).setCell ⟨g, 3, none⟩ v3).setCell ⟨g, 4, none⟩ v4).setCell ⟨g, 5, none⟩ v5).setCell ⟨g, 6, none⟩ v6).setCell ⟨g, 7, none⟩ v7) :=
  h.grown (grown_put (grown_put (grown_put (grown_put (grown_put (grown_put (grown_put (grown_put (grown_refl w (some g)) 0 v0) 1 v1) 2 v2) 3 v3) 4 v4) 5 v5) 6 v6) 7 v7) (fun k hk => by cases hk; exact hg)
theorem not_here {w : World} {base : Nat} {e : TypeId} {s : Nat} {v : Value} {n : Nat} {xs : List Value} (h : w.ownsRow base e s v n xs) : v.ownBlock ≠ some w.heap.size := fun k => by
  have := (h.lt _ k).2
  omega
theorem made_none {B : Nat} (w : World) (h : B ≤ w.heap.size) : (w.alloc (.cells #[] 25)).ownsRow B 25 8 (.slice (some ⟨w.heap.size, 0, none⟩) 0 0) 0 (cellsL []) := w.ownsRow_made #[] 0 h (by unfold maxLen; omega) rfl
theorem not_new {g x : Nat} (h : g < x) : (Value.slice (some ⟨x, 0, none⟩) 0 0).ownBlock ≠ some g := fun e => by
  have e1 : x = g := Option.some.inj e
  omega
set_option maxRecDepth 100000 in
set_option maxHeartbeats 8000000 in
theorem walk (A : Option Addr) (n c : Nat) (l : List (List Int)) (turn : Int) (W : World) (h : AttrsIn W A n c l) (_ : -9223372036854775808 ≤ turn ∧ turn ≤ 9223372036854775807) :
    Calls Try.prog 8 #[.slice A n c, .int .i64 turn] W fun e w' => e = .returned (.bool true) ∧ Below W.heap.size W w' := by
  have hle := h.le
  have hroom := h.room
  have H := hide h
  clear h
  go_enter Try.func8, Try.ntmps8
  go_upto_if 15 with (fail)
  go_cut [0] (fun s0 wx => ∃ m, m = min n 20 ∧ s0 = .slice A m c ∧ wx = W)
  case first =>
    by_cases hn : 20 < n
    · have h1 : (20 : Int) < n := by omega
      have h2 : (20 : Int) ≤ c := by omega
      go_wp2
      go_meet
      exact ⟨20, by omega, rfl, rfl⟩
    · have h1 : ¬ (20 : Int) < n := by omega
      go_wp2
      go_meet
      exact ⟨n, by omega, rfl, rfl⟩
  case rest =>
  obtain ⟨m, hm, rfl, hwc⟩ := hcut
  have e := hwc.symm
  subst e
  obtain ⟨L, hL⟩ : ∃ L, l.take m = L := ⟨_, rfl⟩
  have hLm : L.length = m := by rw [← hL, List.length_take, H.out.len]; omega
  have HI : Hid (Its 8 W A L) := hL ▸ H.out.lies.take m
  have H8 : Hid (∀ x, x ∈ L → Ok8 x) := fun x hx => H.out.ok x (List.mem_of_mem_take (hL ▸ hx))
  have HNIL := hide H.out.nil
  have hm20 : m ≤ 20 := by omega
  have hmc : m ≤ c := by omega
  have HLM := hide hLm
  clear hL hm hLm hle H
  obtain ⟨x0, x1, x2, x3, x4, x5, x6, x7, hx⟩ := len8 ((mostTo_len (fun x hx => (H8.out x hx).len) L.length).1.trans rfl : (mostTo L L.length).1.length = 8)
  rw [mostTo_all] at hx
  have hN := most_le L
  have HMX := hide (fun x (hx : x ∈ L) => most_max hx)
  have HPOS := hide (most_pos L)
  have HTU := hide (most_turned L)
  have hmost : Hid (∀ w, Its 8 w A L → Calls Try.prog 11 #[.slice A m c] w fun e w' => e = .returned (.tuple #[.agg #[.int .i64 x0, .int .i64 x1, .int .i64 x2, .int .i64 x3, .int .i64 x4, .int .i64 x5, .int .i64 x6, .int .i64 x7], .int .i64 ((mostA L).2 : Int)]) ∧ Below w.heap.size w w') := fun w h =>
    (most_any A m c L w HLM.out H8.out h hmc (by omega)).mono fun e w' ⟨h1, h2⟩ => ⟨by rw [h1, hx]; rfl, h2⟩
  rw [HLM.out] at hN HPOS
  generalize (mostA L).2 = N at hN HMX HPOS HTU hmost
  clear hx
  go_upto_region 3 with (fail)
  go_cut [5, 6] (fun s5 s6 wx => ∃ g, s5 = .pointer (some ⟨g, 0, none⟩) ∧ s6 = .int .i64 (N : Int) ∧ Bm W wx g A L x0 x1 x2 x3 x4 x5 x6 x7)
  case first =>
    go_wp2_with (go_at_call 11; refine (hmost.out _ HI.out).mono ?_; rintro e w' ⟨rfl, hb⟩)
    go_meet
    exact ⟨_, rfl, rfl, kept_alloc hb _, (HI.out.below hb).alloc _, Row.new _ _ _⟩
  case rest =>
  obtain ⟨g, rfl, rfl, hB⟩ := hcut
  have B := hide hB
  clear hB HI hmost
  have hk := withinI_bounds turn 0 m (by omega)
  obtain ⟨k, hkk⟩ : ∃ k : Nat, withinI turn 0 m = k := ⟨(withinI turn 0 m).toNat, by omega⟩
  have hwi := hide (fun w => hkk ▸ within_any turn 0 m w (by omega) (by omega) (by omega))
  have hkm : k ≤ m := by omega
  clear hk hkk
  go_upto_region 5 with (go_at_call 24; refine (hwi.out _).mono ?_; rintro e w' ⟨rfl, rfl⟩)
  obtain ⟨i0, hi, hz0, hz1, hz2⟩ := info_parts (show (Try.prog.info? 25).map (fun i => (i.zero, i.size, i.bytes)) = some (some (.agg #[.int .i64 0, .int .i64 0, .int .i64 0, .int .i64 0, .int .i64 0, .int .i64 0, .int .i64 0, .int .i64 0]), 8, 64) by kernel_rfl)
  go_cut [9] (fun s9 wx => s9 = .int .i64 (N : Int) ∧ Bm W wx g A L x0 x1 x2 x3 x4 x5 x6 x7)
  case first =>
    have HA8 : Hid (All 8 L) := fun x hx => (H8.out x hx).len
    obtain ⟨z0, z1, z2, z3, z4, z5, z6, z7, hz⟩ := len8 ((mostTo_len (fun x hx => (H8.out x ((List.mem_append.1 hx).elim List.mem_of_mem_drop List.mem_of_mem_take)).len) (L.drop k ++ L.take k).length).1.trans rfl : (mostTo (L.drop k ++ L.take k) (L.drop k ++ L.take k).length).1.length = 8)
    rw [mostTo_all] at hz
    have HZ := hide hz
    clear hz
    have hmost2 : Hid (∀ (BB : Nat) (w : World) (v : Value), w.ownsRow BB 25 8 v (0 + (m - k) + k) (cellsL ([] ++ L.drop k ++ L.take k)) → Calls Try.prog 11 #[v] w fun e w' => e = .returned (.tuple #[.agg #[.int .i64 z0, .int .i64 z1, .int .i64 z2, .int .i64 z3, .int .i64 z4, .int .i64 z5, .int .i64 z6, .int .i64 z7], .int .i64 (N : Int)]) ∧ Below w.heap.size w w') := fun BB w v h => by
      rw [List.nil_append] at h
      obtain ⟨A', c', rfl⟩ := own_shapeS h
      have ha : All 8 (L.drop k ++ L.take k) := (HA8.out.drop k).append (HA8.out.take k)
      obtain ⟨h1, h2⟩ := its_own h ha (by omega)
      have hc' : 0 + (m - k) + k ≤ c' := by
        rcases h.2 with ⟨e, h0⟩ | ⟨gg, cap, cur, e, _, _, hcap, _⟩
        · injection e with e1 e2 e3; omega
        · injection e with e1 e2 e3; omega
      exact (most_any A' _ c' _ w h2 (fun x hx => (List.mem_append.1 hx).elim (fun h => H8.out x (List.mem_of_mem_drop h)) (fun h => H8.out x (List.mem_of_mem_take h))) h1 hc' (by omega)).mono fun e w' ⟨h1, h2⟩ => ⟨by rw [h1, HZ.out, HTU.out k]; rfl, h2⟩
    refine wp_region_noPanic ?_
    have HB0' : ∃ BB, Hid (Bq BB wc.drew wc.drew) ∧ Hid (∀ w', Bq BB wc.drew w' → Its 8 w' A L) ∧ Hid (∀ w', Bq BB wc.drew w' → Bm W w' g A L x0 x1 x2 x3 x4 x5 x6 x7) :=
      ⟨wc.drew.heap.size, ⟨Below.refl _ _, Nat.le_refl _⟩, fun w' h => (B.out.step (kept_drewN (kept_refl wc) 1)).l.below h.low, fun w' h => (B.out.step (kept_drewN (kept_refl wc) 1)).step h.low⟩
    obtain ⟨BB, HB0, HIB, HBM⟩ := HB0'
    refine wp_region_held_drew (S := (fun w' => Bq BB wc.drew w')) (by kernel_rfl) HB0.out (fun hx => ?_)
    clear hx
    generalize World.drew wc = w0 at HB0 HIB HBM ⊢
    have hk0 : (0 : Int) ≤ k := by omega
    have hkc : (k : Int) ≤ c := by omega
    have hkm' : (k : Int) ≤ m := by omega
    have hpa : (if c = k then A else Option.map (fun x => x.add (k * 8)) A) = partM 8 A c k := rfl
    refine wpAnyH_take (i := 1) (v := ?hgvm1x1) (by simp only [List.getElem?_toArray, List.getElem?_cons_succ, List.getElem?_cons_zero]; exact rfl) (by kernel_rfl) (by kernel_rfl) (by kernel_rfl) (fun _ _ _ h => h) (Or.inl ⟨by rfl, ?hgym1x1⟩) HB0.out ?hgrm1x1
    case hgym1x1 => (intro wh hSw; clear hSw; go_simp; all_goals (with_reducible rfl))
    try simp only [Act.put, List.setIfInBounds_toArray, List.set_cons_zero, List.set_cons_succ]
    refine wpAnyH_take (i := 2) (v := ?hgvm2x2) (by simp only [List.getElem?_toArray, List.getElem?_cons_succ, List.getElem?_cons_zero]; exact rfl) (by kernel_rfl) (by kernel_rfl) (by kernel_rfl) (fun _ _ _ h => h) (Or.inl ⟨by rfl, ?hgym2x2⟩) HB0.out ?hgrm2x2
    case hgym2x2 => (intro wh hSw; clear hSw; go_simp; all_goals (with_reducible rfl))
    try simp only [Act.put, List.setIfInBounds_toArray, List.set_cons_zero, List.set_cons_succ]
    refine wpAnyH_take (i := 3) (v := ?hgvm3x3) (by simp only [List.getElem?_toArray, List.getElem?_cons_succ, List.getElem?_cons_zero]; exact rfl) (by kernel_rfl) (by kernel_rfl) (by kernel_rfl) (fun _ _ _ h => h) (Or.inl ⟨by rfl, ?hgym3x3⟩) HB0.out ?hgrm3x3
    case hgym3x3 => (intro wh hSw; clear hSw; go_simp; all_goals (with_reducible rfl))
    try simp only [Act.put, List.setIfInBounds_toArray, List.set_cons_zero, List.set_cons_succ]
    refine wpAnyH_take (i := 5) (v := ?hgvm4x5) (by simp only [List.getElem?_toArray, List.getElem?_cons_succ, List.getElem?_cons_zero]; exact rfl) (by kernel_rfl) (by kernel_rfl) (by kernel_rfl) (fun _ _ _ h => h) (Or.inl ⟨by rfl, ?hgym4x5⟩) HB0.out ?hgrm4x5
    case hgym4x5 => (intro wh hSw; clear hSw; go_simp; all_goals (with_reducible rfl))
    try simp only [Act.put, List.setIfInBounds_toArray, List.set_cons_zero, List.set_cons_succ]
    refine wpAnyH_take (i := 6) (v := ?hgvm5x6) (by simp only [List.getElem?_toArray, List.getElem?_cons_succ, List.getElem?_cons_zero]; exact rfl) (by kernel_rfl) (by kernel_rfl) (by kernel_rfl) (fun _ _ _ h => h) (Or.inl ⟨by rfl, ?hgym5x6⟩) HB0.out ?hgrm5x6
    case hgym5x6 => (intro wh hSw; clear hSw; go_simp; all_goals (with_reducible rfl))
    try simp only [Act.put, List.setIfInBounds_toArray, List.set_cons_zero, List.set_cons_succ]
    refine wpAnyH_take (i := 7) (v := ?hgvm6x7) (by simp only [List.getElem?_toArray, List.getElem?_cons_succ, List.getElem?_cons_zero]; exact rfl) (by kernel_rfl) (by kernel_rfl) (by kernel_rfl) (fun _ _ _ h => h) (Or.inl ⟨by rfl, ?hgym6x7⟩) HB0.out ?hgrm6x7
    case hgym6x7 => (intro wh hSw; clear hSw; go_simp; all_goals (with_reducible rfl))
    try simp only [Act.put, List.setIfInBounds_toArray, List.set_cons_zero, List.set_cons_succ]
    refine wpAnyH_ready (rs := [0, 13]) (by kernel_rfl) (by simp) ?_
    refine AllReadyH.cons (by simp only [List.getElem?_toArray, List.getElem?_cons_zero]; exact rfl) (fun K hK => ?_) ?_
    · go_simp
      have HB1 := hide (HB0.out.alloc (.cells #[] 25))
      have HO1 := hide (made_none (B := BB) w0 HB0.out.sz)
      refine hK.out _ _ HB1.out (fun hx => ?_)
      clear hx hK K HB0
      generalize World.alloc w0 _ = w1 at HB1 HO1 ⊢
      generalize w0.heap.size = g0 at HO1 ⊢
      refine wpAnyH_ready (rs := [4, 13]) (by kernel_rfl) (by simp) ?_
      refine AllReadyH.cons (by simp only [List.getElem?_toArray, List.getElem?_cons_succ, List.getElem?_cons_zero]; exact rfl) (fun K hK => ?_) ?_
      · refine step_append_its (by rfl) (.tmp 28) (.tmp 31) 37 (by rfl) BB 25 i0 _ Try.underlying37 hi hz0 hz1 (by rw [hz2]; omega) (by omega) rfl _ 0 [] (by rfl) HO1.out (partM 8 A c k) (m - k) (c - k) (L.drop k) (by rfl) (HA8.out.drop k) (by rw [List.length_drop, HLM.out]) (partM_none HNIL.out) ((HIB.out _ HB1.out).rest (by rw [HLM.out]; exact hmc) k) (by omega) HB1.out.sz (fun v4 w2 hO hg hwh => ?_)
        have HB2 := hide (HB1.out.grown hg (fun k hk => (HO1.out.lt k hk).1))
        have HO2 := hide hO
        refine hK.out _ _ HB2.out (fun hx => ?_)
        clear hx hK K hO hg hwh HB1 HO1
        try simp only [Act.put, List.setIfInBounds_toArray, List.set_cons_zero, List.set_cons_succ]
        refine wpAnyH_ready (rs := [8, 13]) (by kernel_rfl) (by simp) ?_
        refine AllReadyH.cons (by simp only [List.getElem?_toArray, List.getElem?_cons_succ, List.getElem?_cons_zero]; exact rfl) (fun K hK => ?_) ?_
        · refine step_append_its (by rfl) (.tmp 32) (.tmp 35) 37 (by rfl) BB 25 i0 _ Try.underlying37 hi hz0 hz1 (by rw [hz2]; omega) (by omega) rfl _ (0 + (m - k)) ([] ++ L.drop k) (by rfl) HO2.out A k c (L.take k) (by rfl) (HA8.out.take k) (by rw [List.length_take, HLM.out]; omega) HNIL.out ((HIB.out _ HB2.out).take k) (by omega) HB2.out.sz (fun v8 w3 hO hg hwh => ?_)
          have HB3 := hide (HB2.out.grown hg (fun k hk => (HO2.out.lt k hk).1))
          have HO3 := hide hO
          refine hK.out _ _ HB3.out (fun hx => ?_)
          clear hx hK K hO hg hwh HB2 HO2
          try simp only [Act.put, List.setIfInBounds_toArray, List.set_cons_zero, List.set_cons_succ]
          refine wpAnyH_ready (rs := [9, 13]) (by kernel_rfl) (by simp) ?_
          refine AllReadyH.cons (by simp only [List.getElem?_toArray, List.getElem?_cons_succ, List.getElem?_cons_zero]; exact rfl) (fun K hK => ?_) ?_
          · go_simp
            refine (hmost2.out _ _ _ HO3.out).mono ?_
            rintro e w4 ⟨rfl, hb⟩
            have HB4 := hide (HB3.out.below hb)
            refine hK.out _ _ HB4.out (fun hx => ?_)
            clear hx hK K hb HB3 HO3
            try simp only [List.setIfInBounds_toArray, List.set_cons_zero, List.set_cons_succ]
            refine wpAnyH_take (i := 10) (v := ?hgvm7x10) (by simp only [List.getElem?_toArray, List.getElem?_cons_succ, List.getElem?_cons_zero]; exact rfl) (by kernel_rfl) (by kernel_rfl) (by kernel_rfl) (fun _ _ _ h => h) (Or.inl ⟨by rfl, ?hgym7x10⟩) HB4.out ?hgrm7x10
            case hgym7x10 => (intro wh hSw; clear hSw; go_simp; all_goals (with_reducible rfl))
            try simp only [Act.put, List.setIfInBounds_toArray, List.set_cons_zero, List.set_cons_succ]
            refine wpAnyH_take (i := 11) (v := ?hgvm8x11) (by simp only [List.getElem?_toArray, List.getElem?_cons_succ, List.getElem?_cons_zero]; exact rfl) (by kernel_rfl) (by kernel_rfl) (by kernel_rfl) (fun _ _ _ h => h) (Or.inl ⟨by rfl, ?hgym8x11⟩) HB4.out ?hgrm8x11
            case hgym8x11 => (intro wh hSw; clear hSw; go_simp; all_goals (with_reducible rfl))
            try simp only [Act.put, List.setIfInBounds_toArray, List.set_cons_zero, List.set_cons_succ]
            refine wpAnyH_take (i := 12) (v := ?hgvm9x12) (by simp only [List.getElem?_toArray, List.getElem?_cons_succ, List.getElem?_cons_zero]; exact rfl) (by kernel_rfl) (by kernel_rfl) (by kernel_rfl) (fun _ _ _ h => h) (Or.inl ⟨by rfl, ?hgym9x12⟩) HB4.out ?hgrm9x12
            case hgym9x12 => (intro wh hSw; clear hSw; go_simp; all_goals (with_reducible rfl))
            try simp only [Act.put, List.setIfInBounds_toArray, List.set_cons_zero, List.set_cons_succ]
            refine wpAnyH_ready (rs := [13]) (by kernel_rfl) (by simp) ?_
            refine AllReadyH.cons (by simp only [List.getElem?_toArray, List.getElem?_cons_succ, List.getElem?_cons_zero]; exact rfl) (fun K hK => ?_) AllReadyH.nil
            go_simp
            have HB5 := hide (HB4.out.alloc (.cells #[.int .i64 0, .int .i64 0, .int .i64 0, .int .i64 0, .int .i64 0, .int .i64 0, .int .i64 0, .int .i64 0] 25))
            have HR5 := hide (And.intro (Row.new w4 25 #[.int .i64 0, .int .i64 0, .int .i64 0, .int .i64 0, .int .i64 0, .int .i64 0, .int .i64 0, .int .i64 0]) HB4.out.sz)
            refine hK.out _ _ HB5.out (fun hx => ?_)
            clear hx hK K HB4
            generalize World.alloc w4 _ = w5 at HB5 HR5 ⊢
            generalize w4.heap.size = g13 at HR5 ⊢
            refine wpAnyH_ready (rs := [14]) (by kernel_rfl) (by simp) ?_
            refine AllReadyH.cons (by simp only [List.getElem?_toArray, List.getElem?_cons_succ, List.getElem?_cons_zero]; exact rfl) (fun K hK => ?_) AllReadyH.nil
            obtain ⟨k0, k1, k2, k3, k4, k5, k6, k7⟩ := HR5.out.1.eight
            obtain ⟨g0, g1, g2, g3, g4, g5, g6, g7⟩ := HR5.out.1.free8
            replace k0 : w5.cell? ⟨g13, 0, none⟩ = some (.int .i64 0) := k0
            replace k1 : w5.cell? ⟨g13, 1, none⟩ = some (.int .i64 0) := k1
            replace k2 : w5.cell? ⟨g13, 2, none⟩ = some (.int .i64 0) := k2
            replace k3 : w5.cell? ⟨g13, 3, none⟩ = some (.int .i64 0) := k3
            replace k4 : w5.cell? ⟨g13, 4, none⟩ = some (.int .i64 0) := k4
            replace k5 : w5.cell? ⟨g13, 5, none⟩ = some (.int .i64 0) := k5
            replace k6 : w5.cell? ⟨g13, 6, none⟩ = some (.int .i64 0) := k6
            replace k7 : w5.cell? ⟨g13, 7, none⟩ = some (.int .i64 0) := k7
            have HB6 := hide (HB5.out.eight HR5.out.2 (.int .i64 z0) (.int .i64 z1) (.int .i64 z2) (.int .i64 z3) (.int .i64 z4) (.int .i64 z5) (.int .i64 z6) (.int .i64 z7))
            go_simp
            refine hK.out _ _ HB6.out (fun hx => ?_)
            clear hx hK K k0 k1 k2 k3 k4 k5 k6 k7 g0 g1 g2 g3 g4 g5 g6 g7 HB5 HR5
            generalize World.setCell (World.setCell (World.setCell (World.setCell (World.setCell (World.setCell (World.setCell (World.setCell w5 _ _) _ _) _ _) _ _) _ _) _ _) _ _) _ _ = w6 at HB6 ⊢
            refine wpAnyH_take (i := 15) (v := ?hgvm10x15) (by simp only [List.getElem?_toArray, List.getElem?_cons_succ, List.getElem?_cons_zero]; exact rfl) (by kernel_rfl) (by kernel_rfl) (by kernel_rfl) (fun _ _ _ h => h) (Or.inl ⟨by rfl, ?hgym10x15⟩) HB6.out ?hgrm10x15
            case hgym10x15 => (intro wh hSw; clear hSw; go_simp; all_goals (with_reducible rfl))
            try simp only [Act.put, List.setIfInBounds_toArray, List.set_cons_zero, List.set_cons_succ]
            refine wpAnyH_done (by kernel_rfl) ?_ _
            refine NoPanic.normal ?_
            go_wp2_with fail
            go_meet
            exact ⟨rfl, HBM.out _ HB6.out⟩
          refine AllReadyH.cons (by simp only [List.getElem?_toArray, List.getElem?_cons_succ, List.getElem?_cons_zero]; exact rfl) (fun K hK => ?_) AllReadyH.nil
          go_simp
          have HB4 := hide (HB3.out.alloc (.cells #[.int .i64 0, .int .i64 0, .int .i64 0, .int .i64 0, .int .i64 0, .int .i64 0, .int .i64 0, .int .i64 0] 25))
          have HO4 := hide (HO3.out.alloc (.cells #[.int .i64 0, .int .i64 0, .int .i64 0, .int .i64 0, .int .i64 0, .int .i64 0, .int .i64 0, .int .i64 0] 25))
          have NE4 := hide (not_here HO3.out)
          have HR4 := hide (And.intro (Row.new w3 25 #[.int .i64 0, .int .i64 0, .int .i64 0, .int .i64 0, .int .i64 0, .int .i64 0, .int .i64 0, .int .i64 0]) HB3.out.sz)
          refine hK.out _ _ HB4.out (fun hx => ?_)
          clear hx hK K HB3 HO3
          generalize World.alloc w3 _ = w4 at HB4 HO4 HR4 ⊢
          generalize w3.heap.size = g13 at HR4 NE4 ⊢
          refine wpAnyH_ready (rs := [9]) (by kernel_rfl) (by simp) ?_
          refine AllReadyH.cons (by simp only [List.getElem?_toArray, List.getElem?_cons_succ, List.getElem?_cons_zero]; exact rfl) (fun K hK => ?_) AllReadyH.nil
          go_simp
          refine (hmost2.out _ _ _ HO4.out).mono ?_
          rintro e w5 ⟨rfl, hb⟩
          have HB5 := hide (HB4.out.below hb)
          have HR5 := hide (And.intro (HR4.out.1.below hb HR4.out.1.lt) HR4.out.2)
          refine hK.out _ _ HB5.out (fun hx => ?_)
          clear hx hK K hb HB4 HO4 HR4 NE4
          try simp only [List.setIfInBounds_toArray, List.set_cons_zero, List.set_cons_succ]
          refine wpAnyH_take (i := 10) (v := ?hgvm11x10) (by simp only [List.getElem?_toArray, List.getElem?_cons_succ, List.getElem?_cons_zero]; exact rfl) (by kernel_rfl) (by kernel_rfl) (by kernel_rfl) (fun _ _ _ h => h) (Or.inl ⟨by rfl, ?hgym11x10⟩) HB5.out ?hgrm11x10
          case hgym11x10 => (intro wh hSw; clear hSw; go_simp; all_goals (with_reducible rfl))
          try simp only [Act.put, List.setIfInBounds_toArray, List.set_cons_zero, List.set_cons_succ]
          refine wpAnyH_take (i := 11) (v := ?hgvm12x11) (by simp only [List.getElem?_toArray, List.getElem?_cons_succ, List.getElem?_cons_zero]; exact rfl) (by kernel_rfl) (by kernel_rfl) (by kernel_rfl) (fun _ _ _ h => h) (Or.inl ⟨by rfl, ?hgym12x11⟩) HB5.out ?hgrm12x11
          case hgym12x11 => (intro wh hSw; clear hSw; go_simp; all_goals (with_reducible rfl))
          try simp only [Act.put, List.setIfInBounds_toArray, List.set_cons_zero, List.set_cons_succ]
          refine wpAnyH_take (i := 12) (v := ?hgvm13x12) (by simp only [List.getElem?_toArray, List.getElem?_cons_succ, List.getElem?_cons_zero]; exact rfl) (by kernel_rfl) (by kernel_rfl) (by kernel_rfl) (fun _ _ _ h => h) (Or.inl ⟨by rfl, ?hgym13x12⟩) HB5.out ?hgrm13x12
          case hgym13x12 => (intro wh hSw; clear hSw; go_simp; all_goals (with_reducible rfl))
          try simp only [Act.put, List.setIfInBounds_toArray, List.set_cons_zero, List.set_cons_succ]
          refine wpAnyH_ready (rs := [14]) (by kernel_rfl) (by simp) ?_
          refine AllReadyH.cons (by simp only [List.getElem?_toArray, List.getElem?_cons_succ, List.getElem?_cons_zero]; exact rfl) (fun K hK => ?_) AllReadyH.nil
          obtain ⟨k0, k1, k2, k3, k4, k5, k6, k7⟩ := HR5.out.1.eight
          obtain ⟨g0, g1, g2, g3, g4, g5, g6, g7⟩ := HR5.out.1.free8
          replace k0 : w5.cell? ⟨g13, 0, none⟩ = some (.int .i64 0) := k0
          replace k1 : w5.cell? ⟨g13, 1, none⟩ = some (.int .i64 0) := k1
          replace k2 : w5.cell? ⟨g13, 2, none⟩ = some (.int .i64 0) := k2
          replace k3 : w5.cell? ⟨g13, 3, none⟩ = some (.int .i64 0) := k3
          replace k4 : w5.cell? ⟨g13, 4, none⟩ = some (.int .i64 0) := k4
          replace k5 : w5.cell? ⟨g13, 5, none⟩ = some (.int .i64 0) := k5
          replace k6 : w5.cell? ⟨g13, 6, none⟩ = some (.int .i64 0) := k6
          replace k7 : w5.cell? ⟨g13, 7, none⟩ = some (.int .i64 0) := k7
          have HB6 := hide (HB5.out.eight HR5.out.2 (.int .i64 z0) (.int .i64 z1) (.int .i64 z2) (.int .i64 z3) (.int .i64 z4) (.int .i64 z5) (.int .i64 z6) (.int .i64 z7))
          go_simp
          refine hK.out _ _ HB6.out (fun hx => ?_)
          clear hx hK K k0 k1 k2 k3 k4 k5 k6 k7 g0 g1 g2 g3 g4 g5 g6 g7 HB5 HR5
          generalize World.setCell (World.setCell (World.setCell (World.setCell (World.setCell (World.setCell (World.setCell (World.setCell w5 _ _) _ _) _ _) _ _) _ _) _ _) _ _) _ _ = w6 at HB6 ⊢
          refine wpAnyH_take (i := 15) (v := ?hgvm14x15) (by simp only [List.getElem?_toArray, List.getElem?_cons_succ, List.getElem?_cons_zero]; exact rfl) (by kernel_rfl) (by kernel_rfl) (by kernel_rfl) (fun _ _ _ h => h) (Or.inl ⟨by rfl, ?hgym14x15⟩) HB6.out ?hgrm14x15
          case hgym14x15 => (intro wh hSw; clear hSw; go_simp; all_goals (with_reducible rfl))
          try simp only [Act.put, List.setIfInBounds_toArray, List.set_cons_zero, List.set_cons_succ]
          refine wpAnyH_done (by kernel_rfl) ?_ _
          refine NoPanic.normal ?_
          go_wp2_with fail
          go_meet
          exact ⟨rfl, HBM.out _ HB6.out⟩
        refine AllReadyH.cons (by simp only [List.getElem?_toArray, List.getElem?_cons_succ, List.getElem?_cons_zero]; exact rfl) (fun K hK => ?_) AllReadyH.nil
        go_simp
        have HB3 := hide (HB2.out.alloc (.cells #[.int .i64 0, .int .i64 0, .int .i64 0, .int .i64 0, .int .i64 0, .int .i64 0, .int .i64 0, .int .i64 0] 25))
        have HO3 := hide (HO2.out.alloc (.cells #[.int .i64 0, .int .i64 0, .int .i64 0, .int .i64 0, .int .i64 0, .int .i64 0, .int .i64 0, .int .i64 0] 25))
        have NE3 := hide (not_here HO2.out)
        have HR3 := hide (And.intro (Row.new w2 25 #[.int .i64 0, .int .i64 0, .int .i64 0, .int .i64 0, .int .i64 0, .int .i64 0, .int .i64 0, .int .i64 0]) HB2.out.sz)
        refine hK.out _ _ HB3.out (fun hx => ?_)
        clear hx hK K HB2 HO2
        generalize World.alloc w2 _ = w3 at HB3 HO3 HR3 ⊢
        generalize w2.heap.size = g13 at HR3 NE3 ⊢
        refine wpAnyH_ready (rs := [8]) (by kernel_rfl) (by simp) ?_
        refine AllReadyH.cons (by simp only [List.getElem?_toArray, List.getElem?_cons_succ, List.getElem?_cons_zero]; exact rfl) (fun K hK => ?_) AllReadyH.nil
        refine step_append_its (by rfl) (.tmp 32) (.tmp 35) 37 (by rfl) BB 25 i0 _ Try.underlying37 hi hz0 hz1 (by rw [hz2]; omega) (by omega) rfl _ (0 + (m - k)) ([] ++ L.drop k) (by rfl) HO3.out A k c (L.take k) (by rfl) (HA8.out.take k) (by rw [List.length_take, HLM.out]; omega) HNIL.out ((HIB.out _ HB3.out).take k) (by omega) HB3.out.sz (fun v8 w4 hO hg hwh => ?_)
        have HB4 := hide (HB3.out.grown hg (fun k hk => (HO3.out.lt k hk).1))
        have HO4 := hide hO
        have NE4 := hide (fun e => (hwh _ e).elim NE3.out (fun h => absurd HR3.out.1.lt (by omega)))
        have HR4 := hide (And.intro (HR3.out.1.grown hg (fun e => NE3.out e.symm)) HR3.out.2)
        refine hK.out _ _ HB4.out (fun hx => ?_)
        clear hx hK K hO hg hwh HB3 HO3 HR3 NE3
        try simp only [Act.put, List.setIfInBounds_toArray, List.set_cons_zero, List.set_cons_succ]
        refine wpAnyH_ready (rs := [9]) (by kernel_rfl) (by simp) ?_
        refine AllReadyH.cons (by simp only [List.getElem?_toArray, List.getElem?_cons_succ, List.getElem?_cons_zero]; exact rfl) (fun K hK => ?_) AllReadyH.nil
        go_simp
        refine (hmost2.out _ _ _ HO4.out).mono ?_
        rintro e w5 ⟨rfl, hb⟩
        have HB5 := hide (HB4.out.below hb)
        have HR5 := hide (And.intro (HR4.out.1.below hb HR4.out.1.lt) HR4.out.2)
        refine hK.out _ _ HB5.out (fun hx => ?_)
        clear hx hK K hb HB4 HO4 HR4 NE4
        try simp only [List.setIfInBounds_toArray, List.set_cons_zero, List.set_cons_succ]
        refine wpAnyH_take (i := 10) (v := ?hgvm15x10) (by simp only [List.getElem?_toArray, List.getElem?_cons_succ, List.getElem?_cons_zero]; exact rfl) (by kernel_rfl) (by kernel_rfl) (by kernel_rfl) (fun _ _ _ h => h) (Or.inl ⟨by rfl, ?hgym15x10⟩) HB5.out ?hgrm15x10
        case hgym15x10 => (intro wh hSw; clear hSw; go_simp; all_goals (with_reducible rfl))
        try simp only [Act.put, List.setIfInBounds_toArray, List.set_cons_zero, List.set_cons_succ]
        refine wpAnyH_take (i := 11) (v := ?hgvm16x11) (by simp only [List.getElem?_toArray, List.getElem?_cons_succ, List.getElem?_cons_zero]; exact rfl) (by kernel_rfl) (by kernel_rfl) (by kernel_rfl) (fun _ _ _ h => h) (Or.inl ⟨by rfl, ?hgym16x11⟩) HB5.out ?hgrm16x11
        case hgym16x11 => (intro wh hSw; clear hSw; go_simp; all_goals (with_reducible rfl))
        try simp only [Act.put, List.setIfInBounds_toArray, List.set_cons_zero, List.set_cons_succ]
        refine wpAnyH_take (i := 12) (v := ?hgvm17x12) (by simp only [List.getElem?_toArray, List.getElem?_cons_succ, List.getElem?_cons_zero]; exact rfl) (by kernel_rfl) (by kernel_rfl) (by kernel_rfl) (fun _ _ _ h => h) (Or.inl ⟨by rfl, ?hgym17x12⟩) HB5.out ?hgrm17x12
        case hgym17x12 => (intro wh hSw; clear hSw; go_simp; all_goals (with_reducible rfl))
        try simp only [Act.put, List.setIfInBounds_toArray, List.set_cons_zero, List.set_cons_succ]
        refine wpAnyH_ready (rs := [14]) (by kernel_rfl) (by simp) ?_
        refine AllReadyH.cons (by simp only [List.getElem?_toArray, List.getElem?_cons_succ, List.getElem?_cons_zero]; exact rfl) (fun K hK => ?_) AllReadyH.nil
        obtain ⟨k0, k1, k2, k3, k4, k5, k6, k7⟩ := HR5.out.1.eight
        obtain ⟨g0, g1, g2, g3, g4, g5, g6, g7⟩ := HR5.out.1.free8
        replace k0 : w5.cell? ⟨g13, 0, none⟩ = some (.int .i64 0) := k0
        replace k1 : w5.cell? ⟨g13, 1, none⟩ = some (.int .i64 0) := k1
        replace k2 : w5.cell? ⟨g13, 2, none⟩ = some (.int .i64 0) := k2
        replace k3 : w5.cell? ⟨g13, 3, none⟩ = some (.int .i64 0) := k3
        replace k4 : w5.cell? ⟨g13, 4, none⟩ = some (.int .i64 0) := k4
        replace k5 : w5.cell? ⟨g13, 5, none⟩ = some (.int .i64 0) := k5
        replace k6 : w5.cell? ⟨g13, 6, none⟩ = some (.int .i64 0) := k6
        replace k7 : w5.cell? ⟨g13, 7, none⟩ = some (.int .i64 0) := k7
        have HB6 := hide (HB5.out.eight HR5.out.2 (.int .i64 z0) (.int .i64 z1) (.int .i64 z2) (.int .i64 z3) (.int .i64 z4) (.int .i64 z5) (.int .i64 z6) (.int .i64 z7))
        go_simp
        refine hK.out _ _ HB6.out (fun hx => ?_)
        clear hx hK K k0 k1 k2 k3 k4 k5 k6 k7 g0 g1 g2 g3 g4 g5 g6 g7 HB5 HR5
        generalize World.setCell (World.setCell (World.setCell (World.setCell (World.setCell (World.setCell (World.setCell (World.setCell w5 _ _) _ _) _ _) _ _) _ _) _ _) _ _) _ _ = w6 at HB6 ⊢
        refine wpAnyH_take (i := 15) (v := ?hgvm18x15) (by simp only [List.getElem?_toArray, List.getElem?_cons_succ, List.getElem?_cons_zero]; exact rfl) (by kernel_rfl) (by kernel_rfl) (by kernel_rfl) (fun _ _ _ h => h) (Or.inl ⟨by rfl, ?hgym18x15⟩) HB6.out ?hgrm18x15
        case hgym18x15 => (intro wh hSw; clear hSw; go_simp; all_goals (with_reducible rfl))
        try simp only [Act.put, List.setIfInBounds_toArray, List.set_cons_zero, List.set_cons_succ]
        refine wpAnyH_done (by kernel_rfl) ?_ _
        refine NoPanic.normal ?_
        go_wp2_with fail
        go_meet
        exact ⟨rfl, HBM.out _ HB6.out⟩
      refine AllReadyH.cons (by simp only [List.getElem?_toArray, List.getElem?_cons_succ, List.getElem?_cons_zero]; exact rfl) (fun K hK => ?_) AllReadyH.nil
      go_simp
      have HB2 := hide (HB1.out.alloc (.cells #[.int .i64 0, .int .i64 0, .int .i64 0, .int .i64 0, .int .i64 0, .int .i64 0, .int .i64 0, .int .i64 0] 25))
      have HO2 := hide (HO1.out.alloc (.cells #[.int .i64 0, .int .i64 0, .int .i64 0, .int .i64 0, .int .i64 0, .int .i64 0, .int .i64 0, .int .i64 0] 25))
      have NE2 := hide (not_here HO1.out)
      have HR2 := hide (And.intro (Row.new w1 25 #[.int .i64 0, .int .i64 0, .int .i64 0, .int .i64 0, .int .i64 0, .int .i64 0, .int .i64 0, .int .i64 0]) HB1.out.sz)
      refine hK.out _ _ HB2.out (fun hx => ?_)
      clear hx hK K HB1 HO1
      generalize World.alloc w1 _ = w2 at HB2 HO2 HR2 ⊢
      generalize w1.heap.size = g13 at HR2 NE2 ⊢
      refine wpAnyH_ready (rs := [4]) (by kernel_rfl) (by simp) ?_
      refine AllReadyH.cons (by simp only [List.getElem?_toArray, List.getElem?_cons_succ, List.getElem?_cons_zero]; exact rfl) (fun K hK => ?_) AllReadyH.nil
      refine step_append_its (by rfl) (.tmp 28) (.tmp 31) 37 (by rfl) BB 25 i0 _ Try.underlying37 hi hz0 hz1 (by rw [hz2]; omega) (by omega) rfl _ 0 [] (by rfl) HO2.out (partM 8 A c k) (m - k) (c - k) (L.drop k) (by rfl) (HA8.out.drop k) (by rw [List.length_drop, HLM.out]) (partM_none HNIL.out) ((HIB.out _ HB2.out).rest (by rw [HLM.out]; exact hmc) k) (by omega) HB2.out.sz (fun v4 w3 hO hg hwh => ?_)
      have HB3 := hide (HB2.out.grown hg (fun k hk => (HO2.out.lt k hk).1))
      have HO3 := hide hO
      have NE3 := hide (fun e => (hwh _ e).elim NE2.out (fun h => absurd HR2.out.1.lt (by omega)))
      have HR3 := hide (And.intro (HR2.out.1.grown hg (fun e => NE2.out e.symm)) HR2.out.2)
      refine hK.out _ _ HB3.out (fun hx => ?_)
      clear hx hK K hO hg hwh HB2 HO2 HR2 NE2
      try simp only [Act.put, List.setIfInBounds_toArray, List.set_cons_zero, List.set_cons_succ]
      refine wpAnyH_ready (rs := [8]) (by kernel_rfl) (by simp) ?_
      refine AllReadyH.cons (by simp only [List.getElem?_toArray, List.getElem?_cons_succ, List.getElem?_cons_zero]; exact rfl) (fun K hK => ?_) AllReadyH.nil
      refine step_append_its (by rfl) (.tmp 32) (.tmp 35) 37 (by rfl) BB 25 i0 _ Try.underlying37 hi hz0 hz1 (by rw [hz2]; omega) (by omega) rfl _ (0 + (m - k)) ([] ++ L.drop k) (by rfl) HO3.out A k c (L.take k) (by rfl) (HA8.out.take k) (by rw [List.length_take, HLM.out]; omega) HNIL.out ((HIB.out _ HB3.out).take k) (by omega) HB3.out.sz (fun v8 w4 hO hg hwh => ?_)
      have HB4 := hide (HB3.out.grown hg (fun k hk => (HO3.out.lt k hk).1))
      have HO4 := hide hO
      have NE4 := hide (fun e => (hwh _ e).elim NE3.out (fun h => absurd HR3.out.1.lt (by omega)))
      have HR4 := hide (And.intro (HR3.out.1.grown hg (fun e => NE3.out e.symm)) HR3.out.2)
      refine hK.out _ _ HB4.out (fun hx => ?_)
      clear hx hK K hO hg hwh HB3 HO3 HR3 NE3
      try simp only [Act.put, List.setIfInBounds_toArray, List.set_cons_zero, List.set_cons_succ]
      refine wpAnyH_ready (rs := [9]) (by kernel_rfl) (by simp) ?_
      refine AllReadyH.cons (by simp only [List.getElem?_toArray, List.getElem?_cons_succ, List.getElem?_cons_zero]; exact rfl) (fun K hK => ?_) AllReadyH.nil
      go_simp
      refine (hmost2.out _ _ _ HO4.out).mono ?_
      rintro e w5 ⟨rfl, hb⟩
      have HB5 := hide (HB4.out.below hb)
      have HR5 := hide (And.intro (HR4.out.1.below hb HR4.out.1.lt) HR4.out.2)
      refine hK.out _ _ HB5.out (fun hx => ?_)
      clear hx hK K hb HB4 HO4 HR4 NE4
      try simp only [List.setIfInBounds_toArray, List.set_cons_zero, List.set_cons_succ]
      refine wpAnyH_take (i := 10) (v := ?hgvm19x10) (by simp only [List.getElem?_toArray, List.getElem?_cons_succ, List.getElem?_cons_zero]; exact rfl) (by kernel_rfl) (by kernel_rfl) (by kernel_rfl) (fun _ _ _ h => h) (Or.inl ⟨by rfl, ?hgym19x10⟩) HB5.out ?hgrm19x10
      case hgym19x10 => (intro wh hSw; clear hSw; go_simp; all_goals (with_reducible rfl))
      try simp only [Act.put, List.setIfInBounds_toArray, List.set_cons_zero, List.set_cons_succ]
      refine wpAnyH_take (i := 11) (v := ?hgvm20x11) (by simp only [List.getElem?_toArray, List.getElem?_cons_succ, List.getElem?_cons_zero]; exact rfl) (by kernel_rfl) (by kernel_rfl) (by kernel_rfl) (fun _ _ _ h => h) (Or.inl ⟨by rfl, ?hgym20x11⟩) HB5.out ?hgrm20x11
      case hgym20x11 => (intro wh hSw; clear hSw; go_simp; all_goals (with_reducible rfl))
      try simp only [Act.put, List.setIfInBounds_toArray, List.set_cons_zero, List.set_cons_succ]
      refine wpAnyH_take (i := 12) (v := ?hgvm21x12) (by simp only [List.getElem?_toArray, List.getElem?_cons_succ, List.getElem?_cons_zero]; exact rfl) (by kernel_rfl) (by kernel_rfl) (by kernel_rfl) (fun _ _ _ h => h) (Or.inl ⟨by rfl, ?hgym21x12⟩) HB5.out ?hgrm21x12
      case hgym21x12 => (intro wh hSw; clear hSw; go_simp; all_goals (with_reducible rfl))
      try simp only [Act.put, List.setIfInBounds_toArray, List.set_cons_zero, List.set_cons_succ]
      refine wpAnyH_ready (rs := [14]) (by kernel_rfl) (by simp) ?_
      refine AllReadyH.cons (by simp only [List.getElem?_toArray, List.getElem?_cons_succ, List.getElem?_cons_zero]; exact rfl) (fun K hK => ?_) AllReadyH.nil
      obtain ⟨k0, k1, k2, k3, k4, k5, k6, k7⟩ := HR5.out.1.eight
      obtain ⟨g0, g1, g2, g3, g4, g5, g6, g7⟩ := HR5.out.1.free8
      replace k0 : w5.cell? ⟨g13, 0, none⟩ = some (.int .i64 0) := k0
      replace k1 : w5.cell? ⟨g13, 1, none⟩ = some (.int .i64 0) := k1
      replace k2 : w5.cell? ⟨g13, 2, none⟩ = some (.int .i64 0) := k2
      replace k3 : w5.cell? ⟨g13, 3, none⟩ = some (.int .i64 0) := k3
      replace k4 : w5.cell? ⟨g13, 4, none⟩ = some (.int .i64 0) := k4
      replace k5 : w5.cell? ⟨g13, 5, none⟩ = some (.int .i64 0) := k5
      replace k6 : w5.cell? ⟨g13, 6, none⟩ = some (.int .i64 0) := k6
      replace k7 : w5.cell? ⟨g13, 7, none⟩ = some (.int .i64 0) := k7
      have HB6 := hide (HB5.out.eight HR5.out.2 (.int .i64 z0) (.int .i64 z1) (.int .i64 z2) (.int .i64 z3) (.int .i64 z4) (.int .i64 z5) (.int .i64 z6) (.int .i64 z7))
      go_simp
      refine hK.out _ _ HB6.out (fun hx => ?_)
      clear hx hK K k0 k1 k2 k3 k4 k5 k6 k7 g0 g1 g2 g3 g4 g5 g6 g7 HB5 HR5
      generalize World.setCell (World.setCell (World.setCell (World.setCell (World.setCell (World.setCell (World.setCell (World.setCell w5 _ _) _ _) _ _) _ _) _ _) _ _) _ _) _ _ = w6 at HB6 ⊢
      refine wpAnyH_take (i := 15) (v := ?hgvm22x15) (by simp only [List.getElem?_toArray, List.getElem?_cons_succ, List.getElem?_cons_zero]; exact rfl) (by kernel_rfl) (by kernel_rfl) (by kernel_rfl) (fun _ _ _ h => h) (Or.inl ⟨by rfl, ?hgym22x15⟩) HB6.out ?hgrm22x15
      case hgym22x15 => (intro wh hSw; clear hSw; go_simp; all_goals (with_reducible rfl))
      try simp only [Act.put, List.setIfInBounds_toArray, List.set_cons_zero, List.set_cons_succ]
      refine wpAnyH_done (by kernel_rfl) ?_ _
      refine NoPanic.normal ?_
      go_wp2_with fail
      go_meet
      exact ⟨rfl, HBM.out _ HB6.out⟩
    refine AllReadyH.cons (by simp only [List.getElem?_toArray, List.getElem?_cons_succ, List.getElem?_cons_zero]; exact rfl) (fun K hK => ?_) AllReadyH.nil
    go_simp
    have HB1 := hide (HB0.out.alloc (.cells #[.int .i64 0, .int .i64 0, .int .i64 0, .int .i64 0, .int .i64 0, .int .i64 0, .int .i64 0, .int .i64 0] 25))
    have HR1 := hide (And.intro (Row.new w0 25 #[.int .i64 0, .int .i64 0, .int .i64 0, .int .i64 0, .int .i64 0, .int .i64 0, .int .i64 0, .int .i64 0]) HB0.out.sz)
    refine hK.out _ _ HB1.out (fun hx => ?_)
    clear hx hK K HB0
    generalize World.alloc w0 _ = w1 at HB1 HR1 ⊢
    generalize w0.heap.size = g13 at HR1 ⊢
    refine wpAnyH_ready (rs := [0]) (by kernel_rfl) (by simp) ?_
    refine AllReadyH.cons (by simp only [List.getElem?_toArray, List.getElem?_cons_zero]; exact rfl) (fun K hK => ?_) AllReadyH.nil
    go_simp
    have HB2 := hide (HB1.out.alloc (.cells #[] 25))
    have HO2 := hide (made_none (B := BB) w1 HB1.out.sz)
    have NE2 := hide (not_new HR1.out.1.lt)
    have HR2 := hide (And.intro (HR1.out.1.alloc (.cells #[] 25)) HR1.out.2)
    refine hK.out _ _ HB2.out (fun hx => ?_)
    clear hx hK K HB1 HR1
    generalize World.alloc w1 _ = w2 at HB2 HO2 HR2 ⊢
    generalize w1.heap.size = g0 at HO2 NE2 ⊢
    refine wpAnyH_ready (rs := [4]) (by kernel_rfl) (by simp) ?_
    refine AllReadyH.cons (by simp only [List.getElem?_toArray, List.getElem?_cons_succ, List.getElem?_cons_zero]; exact rfl) (fun K hK => ?_) AllReadyH.nil
    refine step_append_its (by rfl) (.tmp 28) (.tmp 31) 37 (by rfl) BB 25 i0 _ Try.underlying37 hi hz0 hz1 (by rw [hz2]; omega) (by omega) rfl _ 0 [] (by rfl) HO2.out (partM 8 A c k) (m - k) (c - k) (L.drop k) (by rfl) (HA8.out.drop k) (by rw [List.length_drop, HLM.out]) (partM_none HNIL.out) ((HIB.out _ HB2.out).rest (by rw [HLM.out]; exact hmc) k) (by omega) HB2.out.sz (fun v4 w3 hO hg hwh => ?_)
    have HB3 := hide (HB2.out.grown hg (fun k hk => (HO2.out.lt k hk).1))
    have HO3 := hide hO
    have NE3 := hide (fun e => (hwh _ e).elim NE2.out (fun h => absurd HR2.out.1.lt (by omega)))
    have HR3 := hide (And.intro (HR2.out.1.grown hg (fun e => NE2.out e.symm)) HR2.out.2)
    refine hK.out _ _ HB3.out (fun hx => ?_)
    clear hx hK K hO hg hwh HB2 HO2 HR2 NE2
    try simp only [Act.put, List.setIfInBounds_toArray, List.set_cons_zero, List.set_cons_succ]
    refine wpAnyH_ready (rs := [8]) (by kernel_rfl) (by simp) ?_
    refine AllReadyH.cons (by simp only [List.getElem?_toArray, List.getElem?_cons_succ, List.getElem?_cons_zero]; exact rfl) (fun K hK => ?_) AllReadyH.nil
    refine step_append_its (by rfl) (.tmp 32) (.tmp 35) 37 (by rfl) BB 25 i0 _ Try.underlying37 hi hz0 hz1 (by rw [hz2]; omega) (by omega) rfl _ (0 + (m - k)) ([] ++ L.drop k) (by rfl) HO3.out A k c (L.take k) (by rfl) (HA8.out.take k) (by rw [List.length_take, HLM.out]; omega) HNIL.out ((HIB.out _ HB3.out).take k) (by omega) HB3.out.sz (fun v8 w4 hO hg hwh => ?_)
    have HB4 := hide (HB3.out.grown hg (fun k hk => (HO3.out.lt k hk).1))
    have HO4 := hide hO
    have NE4 := hide (fun e => (hwh _ e).elim NE3.out (fun h => absurd HR3.out.1.lt (by omega)))
    have HR4 := hide (And.intro (HR3.out.1.grown hg (fun e => NE3.out e.symm)) HR3.out.2)
    refine hK.out _ _ HB4.out (fun hx => ?_)
    clear hx hK K hO hg hwh HB3 HO3 HR3 NE3
    try simp only [Act.put, List.setIfInBounds_toArray, List.set_cons_zero, List.set_cons_succ]
    refine wpAnyH_ready (rs := [9]) (by kernel_rfl) (by simp) ?_
    refine AllReadyH.cons (by simp only [List.getElem?_toArray, List.getElem?_cons_succ, List.getElem?_cons_zero]; exact rfl) (fun K hK => ?_) AllReadyH.nil
    go_simp
    refine (hmost2.out _ _ _ HO4.out).mono ?_
    rintro e w5 ⟨rfl, hb⟩
    have HB5 := hide (HB4.out.below hb)
    have HR5 := hide (And.intro (HR4.out.1.below hb HR4.out.1.lt) HR4.out.2)
    refine hK.out _ _ HB5.out (fun hx => ?_)
    clear hx hK K hb HB4 HO4 HR4 NE4
    try simp only [List.setIfInBounds_toArray, List.set_cons_zero, List.set_cons_succ]
    refine wpAnyH_take (i := 10) (v := ?hgvm23x10) (by simp only [List.getElem?_toArray, List.getElem?_cons_succ, List.getElem?_cons_zero]; exact rfl) (by kernel_rfl) (by kernel_rfl) (by kernel_rfl) (fun _ _ _ h => h) (Or.inl ⟨by rfl, ?hgym23x10⟩) HB5.out ?hgrm23x10
    case hgym23x10 => (intro wh hSw; clear hSw; go_simp; all_goals (with_reducible rfl))
    try simp only [Act.put, List.setIfInBounds_toArray, List.set_cons_zero, List.set_cons_succ]
    refine wpAnyH_take (i := 11) (v := ?hgvm24x11) (by simp only [List.getElem?_toArray, List.getElem?_cons_succ, List.getElem?_cons_zero]; exact rfl) (by kernel_rfl) (by kernel_rfl) (by kernel_rfl) (fun _ _ _ h => h) (Or.inl ⟨by rfl, ?hgym24x11⟩) HB5.out ?hgrm24x11
    case hgym24x11 => (intro wh hSw; clear hSw; go_simp; all_goals (with_reducible rfl))
    try simp only [Act.put, List.setIfInBounds_toArray, List.set_cons_zero, List.set_cons_succ]
    refine wpAnyH_take (i := 12) (v := ?hgvm25x12) (by simp only [List.getElem?_toArray, List.getElem?_cons_succ, List.getElem?_cons_zero]; exact rfl) (by kernel_rfl) (by kernel_rfl) (by kernel_rfl) (fun _ _ _ h => h) (Or.inl ⟨by rfl, ?hgym25x12⟩) HB5.out ?hgrm25x12
    case hgym25x12 => (intro wh hSw; clear hSw; go_simp; all_goals (with_reducible rfl))
    try simp only [Act.put, List.setIfInBounds_toArray, List.set_cons_zero, List.set_cons_succ]
    refine wpAnyH_ready (rs := [14]) (by kernel_rfl) (by simp) ?_
    refine AllReadyH.cons (by simp only [List.getElem?_toArray, List.getElem?_cons_succ, List.getElem?_cons_zero]; exact rfl) (fun K hK => ?_) AllReadyH.nil
    obtain ⟨k0, k1, k2, k3, k4, k5, k6, k7⟩ := HR5.out.1.eight
    obtain ⟨g0, g1, g2, g3, g4, g5, g6, g7⟩ := HR5.out.1.free8
    replace k0 : w5.cell? ⟨g13, 0, none⟩ = some (.int .i64 0) := k0
    replace k1 : w5.cell? ⟨g13, 1, none⟩ = some (.int .i64 0) := k1
    replace k2 : w5.cell? ⟨g13, 2, none⟩ = some (.int .i64 0) := k2
    replace k3 : w5.cell? ⟨g13, 3, none⟩ = some (.int .i64 0) := k3
    replace k4 : w5.cell? ⟨g13, 4, none⟩ = some (.int .i64 0) := k4
    replace k5 : w5.cell? ⟨g13, 5, none⟩ = some (.int .i64 0) := k5
    replace k6 : w5.cell? ⟨g13, 6, none⟩ = some (.int .i64 0) := k6
    replace k7 : w5.cell? ⟨g13, 7, none⟩ = some (.int .i64 0) := k7
    have HB6 := hide (HB5.out.eight HR5.out.2 (.int .i64 z0) (.int .i64 z1) (.int .i64 z2) (.int .i64 z3) (.int .i64 z4) (.int .i64 z5) (.int .i64 z6) (.int .i64 z7))
    go_simp
    refine hK.out _ _ HB6.out (fun hx => ?_)
    clear hx hK K k0 k1 k2 k3 k4 k5 k6 k7 g0 g1 g2 g3 g4 g5 g6 g7 HB5 HR5
    generalize World.setCell (World.setCell (World.setCell (World.setCell (World.setCell (World.setCell (World.setCell (World.setCell w5 _ _) _ _) _ _) _ _) _ _) _ _) _ _) _ _ = w6 at HB6 ⊢
    refine wpAnyH_take (i := 15) (v := ?hgvm26x15) (by simp only [List.getElem?_toArray, List.getElem?_cons_succ, List.getElem?_cons_zero]; exact rfl) (by kernel_rfl) (by kernel_rfl) (by kernel_rfl) (fun _ _ _ h => h) (Or.inl ⟨by rfl, ?hgym26x15⟩) HB6.out ?hgrm26x15
    case hgym26x15 => (intro wh hSw; clear hSw; go_simp; all_goals (with_reducible rfl))
    try simp only [Act.put, List.setIfInBounds_toArray, List.set_cons_zero, List.set_cons_succ]
    refine wpAnyH_done (by kernel_rfl) ?_ _
    refine NoPanic.normal ?_
    go_wp2_with fail
    go_meet
    exact ⟨rfl, HBM.out _ HB6.out⟩
  case rest =>
  obtain ⟨rfl, hB⟩ := hcut
  have B2 := hide hB
  have hpos : ∃ t, decide (0 < N) = t ∧ decide (0 < m) = t ∧ decide ((0 : Int) < (N : Int)) = t ∧ decide ((0 : Int) < (m : Int)) = t :=
    ⟨decide (0 < N), rfl, HPOS.out.symm, by rw [Bool.eq_iff_iff, decide_eq_true_iff, decide_eq_true_iff]; omega, by rw [HPOS.out, Bool.eq_iff_iff, decide_eq_true_iff, decide_eq_true_iff]; omega⟩
  clear hB B hi hz0 hz1 hz2 HPOS HTU
  have EL : Hid (∀ j x, L[j]? = some x → ∃ b off, A = some ⟨b, off, none⟩ ∧ Cells8 wc b (off + j * 8) x) := fun j x hj => by
    obtain ⟨b, off, e, _, hc⟩ := B2.out.l.at_ hj
    exact ⟨b, off, e, eight_at hc⟩
  go_wp2
  go_loopw [10] (fun i wr => ∃ j q : Nat, j ≤ m ∧ i = .int .i64 j ∧ wr = wc.drewN q) (fun i _ => m - (intOf i).toNat)
  case atStart => exact ⟨0, 0, by omega, rfl, rfl⟩
  case round =>
    obtain ⟨i, q0, hi', rfl, rfl⟩ := hrel
    by_cases hlt : i < m
    · obtain ⟨y, hy⟩ : ∃ y, L[i]? = some y := ⟨_, List.getElem?_eq_getElem (by rw [HLM.out]; exact hlt)⟩
      obtain ⟨y0, y1, y2, y3, y4, y5, y6, y7, rfl⟩ := len8 (H8.out y (List.mem_of_getElem? hy)).len
      have HCM := hide (HMX.out _ (List.mem_of_getElem? hy))
      have EY := EL.out i _ hy
      have him : (i : Int) < m := by omega
      clear hy
      go_wp2
      go_loopw [11, 12] (fun cn j wr => ∃ j' q : Nat, j' ≤ m ∧ j = .int .i64 j' ∧ cn = .int .i64 ((L.take j').count [y0, y1, y2, y3, y4, y5, y6, y7] : Int) ∧ wr = wc.drewN q) (fun _ j _ => m - (intOf j).toNat)
      case atStart => exact ⟨0, _, by omega, rfl, rfl, rfl⟩
      case round =>
        obtain ⟨j, q, hj, rfl, rfl, rfl⟩ := hrel
        by_cases hjt : j < m
        · obtain ⟨u, hu⟩ : ∃ u, L[j]? = some u := ⟨_, List.getElem?_eq_getElem (by rw [HLM.out]; exact hjt)⟩
          obtain ⟨u0, u1, u2, u3, u4, u5, u6, u7, rfl⟩ := len8 (H8.out u (List.mem_of_getElem? hu)).len
          obtain ⟨b, off, rfl, hx⟩ := EY
          obtain ⟨b', off', e', hy'⟩ := EL.out j _ hu
          injection e' with e'
          injection e' with e1 e2
          subst e1 e2
          obtain ⟨e0, e1, e2, e3, e4, e5, e6, e7⟩ := eight_lit hx
          obtain ⟨k0, k1, k2, k3, k4, k5, k6, k7⟩ := eight_lit hy'
          have heq := fun w => eql_attr u0 u1 u2 u3 u4 u5 u6 u7 y0 y1 y2 y3 y4 y5 y6 y7 w
          have HC : Hid (∀ p, decide ([u0, u1, u2, u3, u4, u5, u6, u7] = [y0, y1, y2, y3, y4, y5, y6, y7]) = p → (L.take (j + 1)).count [y0, y1, y2, y3, y4, y5, y6, y7] = (L.take j).count [y0, y1, y2, y3, y4, y5, y6, y7] + (if p then 1 else 0)) := fun p hp => count_take hu [y0, y1, y2, y3, y4, y5, y6, y7] hp
          have hcl : (L.take j).count [y0, y1, y2, y3, y4, y5, y6, y7] ≤ 1000000000 := Nat.le_trans List.count_le_length (by rw [List.length_take]; omega)
          obtain ⟨p, hp⟩ : ∃ p, decide ([u0, u1, u2, u3, u4, u5, u6, u7] = [y0, y1, y2, y3, y4, y5, y6, y7]) = p := ⟨_, rfl⟩
          have HC2 := hide (HC.out p hp)
          rw [hp] at heq
          have hjm : (j : Int) < m := by omega
          clear hx hy' hu HC hp
          generalize (L.take j).count [y0, y1, y2, y3, y4, y5, y6, y7] = cc at HC2 hcl ⊢
          cases p
          · go_wp2
            go_quiet (fail)
            go_wp2
            go_roundw
            case rel => exact ⟨j + 1, _, by omega, by go_num, by rw [HC2.out]; rfl, rfl⟩
            case measure => simp [intOf]; omega
          · go_wp2
            go_quiet (fail)
            go_wp2
            go_roundw
            case rel => exact ⟨j + 1, _, by omega, by go_num, by rw [HC2.out]; go_num, rfl⟩
            case measure => simp [intOf]; omega
        · obtain rfl : j = m := by omega
          rw [List.take_of_length_le (Nat.le_of_eq HLM.out)]
          have hge : ¬ ((j : Int) < (j : Int)) := by omega
          obtain ⟨b, off, rfl, hx⟩ := EY
          obtain ⟨e0, e1, e2, e3, e4, e5, e6, e7⟩ := eight_lit hx
          obtain ⟨k0, k1, k2, k3, k4, k5, k6, k7⟩ := B2.out.x.eight
          replace k0 : wc.cell? ⟨g, 0, none⟩ = some (.int .i64 x0) := k0
          replace k1 : wc.cell? ⟨g, 1, none⟩ = some (.int .i64 x1) := k1
          replace k2 : wc.cell? ⟨g, 2, none⟩ = some (.int .i64 x2) := k2
          replace k3 : wc.cell? ⟨g, 3, none⟩ = some (.int .i64 x3) := k3
          replace k4 : wc.cell? ⟨g, 4, none⟩ = some (.int .i64 x4) := k4
          replace k5 : wc.cell? ⟨g, 5, none⟩ = some (.int .i64 x5) := k5
          replace k6 : wc.cell? ⟨g, 6, none⟩ = some (.int .i64 x6) := k6
          replace k7 : wc.cell? ⟨g, 7, none⟩ = some (.int .i64 x7) := k7
          have heq := fun w => eql_attr y0 y1 y2 y3 y4 y5 y6 y7 x0 x1 x2 x3 x4 x5 x6 x7 w
          obtain ⟨r, hr⟩ : ∃ r, decide ([y0, y1, y2, y3, y4, y5, y6, y7] = [x0, x1, x2, x3, x4, x5, x6, x7]) = r := ⟨_, rfl⟩
          rw [hr] at heq
          have hcm := HCM.out
          generalize L.count [y0, y1, y2, y3, y4, y5, y6, y7] = p at hcm ⊢
          have hgt : decide (N < p) = false := decide_eq_false (by omega)
          have hgt2 : decide ((N : Int) < (p : Int)) = false := decide_eq_false (by omega)
          obtain ⟨e, he1, he2, he3, he4⟩ : ∃ e, (p == N) = e ∧ ((p : Int) == (N : Int)) = e ∧ (p != N) = !e ∧ ((p : Int) != (N : Int)) = !e := by
            by_cases h : p = N
            · exact ⟨true, by simp [h], by simp [h], by simp [h], by simp [h]⟩
            · exact ⟨false, by simp [h], by simp; omega, by simp [h], by simp; omega⟩
          obtain ⟨t, ht1, ht2, ht3, ht4⟩ := hpos
          clear hx hr HCM hcm
          cases e <;> cases t <;> cases r
          all_goals
            go_wp2
            go_quiet (fail)
            go_wp2
            go_roundw
            case rel => exact ⟨i + 1, _, by omega, by go_num, rfl⟩
            case measure => simp [intOf]; omega
    · obtain rfl : i = m := by omega
      have hge : ¬ ((i : Int) < (i : Int)) := by omega
      have B3 := hide (B2.out.drewN q0)
      obtain ⟨t, ht1, ht2, ht3, ht4⟩ := hpos
      clear B2 EL
      generalize World.drewN wc q0 = w3 at B3 ⊢
      cases t
      all_goals
        go_wp2_with (go_at_call 3; (with_reducible refine (runs_any _).mono ?_); rintro e w' ⟨rfl, hb⟩; replace B3 := hide (B3.out.step hb); clear hb)
        go_ret
        exact ⟨rfl, B3.out.low⟩
set_option maxRecDepth 100000 in
theorem lifted (os : Os) (started : os.Started) (H : Type) (enc : TypeId × Value → H) :
    ReturnsInHanded {} Try.checked os 8 .any (Rows.depsMostSpec.pre6 enc Try.prog Try.f8 Rows.depsMostRow.domain false) (Rows.depsMostSpec.post enc Try.prog Try.f8 false true false false) := by
  refine returnsInHanded_of_change (C := Try.checked) own started (by kernel_rfl) Try.func8
    (ChangeSpec.witness6 (enc := enc) (C := Try.checked) false ⟨#[], #[.slice none 0 0, .int .i64 0], []⟩ 8 (by kernel_rfl) (by kernel_rfl) (by kernel_rfl) (by kernel_rfl)) ?_
  intro W base args ds gs before hval0 hW _ _
  have hval : ∀ (j : Nat) t v, Try.f8.params[j]? = some t → args[j]? = some v → Value.okWide Try.prog W .any base t v := hval0
  have hW' := hW
  obtain ⟨p, q, hA0, hV, rfl, _, _⟩ := hW
  have hA : DataW.TrodAll enc Try.prog W 0 (fun _ => true) true Try.f8.params.toList args.toList ds p := hA0
  rw [Try.params8] at hA hval
  obtain ⟨v0, vs0, d0, ds0, p0, q0, hargs, rfl, rfl, h0, r0⟩ := trodAll_cons hA
  obtain ⟨v1, vs1, d1, ds1, p1, q1, rfl, rfl, rfl, h1, r1⟩ := trodAll_cons r0
  obtain ⟨rfl, rfl, rfl⟩ := trodAll_nil r1
  obtain rfl : args = #[v0, v1] := by cases args; simp_all
  obtain ⟨rfl, rfl⟩ := trodVars_none hV
  have k0 := h0
  have lt0 : ∀ x ∈ p0, x.block < W.heap.size := by obtain ⟨m, hm⟩ := k0; exact DataW.trod_lt m _ _ _ hm
  obtain ⟨A0, n0, c0, rfl⟩ := okWide_slice Try.underlying37 (hval 0 37 v0 rfl rfl)
  obtain ⟨z0, s0⟩ := attrs_in h0
  obtain ⟨a1, rfl, rfl, rfl, w1⟩ := open_int Try.underlying3 (hval 1 3 v1 rfl rfl) h1
  clear hA0 hval0
  refine (walk A0 n0 c0 z0 a1 W s0 (bounds_i64 w1)).mono fun e W' ⟨he, bel⟩ => ?_
  subst he
  exact ⟨_, rfl, _, _, _, [], _, [], hW', trodAll_mk1 (shut_bool Try.underlying4 _), (trodAll_cons_mk (Below.trod laidOut (by kernel_rfl) (of_decide_eq_true (by kernel_rfl)) k0 bel lt0) (trodAll_cons_mk (shut_int Try.underlying3 w1) trodAll_mk0)), rfl, bel.frame _, fun h => by cases h⟩
theorem over : Rows.depsMostRow.holds Try.pinned (OpenSpec.ofChange Rows.depsMostSpec) :=
  OpenClaim.holds_of_wide 8 Try.f8 rfl rfl rfl rfl rfl rfl rfl ⟨rfl, rfl, rfl, rfl, rfl⟩ rfl rfl rfl rfl rfl (by kernel_rfl) Try.func8 (by kernel_rfl)
    (of_decide_eq_true (by kernel_rfl)) (by unfold Func.isWrapper; first | (rw [if_pos (by decide +kernel)]; kernel_rfl) | (rw [if_neg (by decide +kernel)]; exact ⟨rfl, rfl⟩))
    (fun os started H enc _ => lifted os started H enc)
theorem proved : Rows.DepsMostSaid := over
end Go.Proofs.Ytpngcocmjbkfgaa.depsMost
