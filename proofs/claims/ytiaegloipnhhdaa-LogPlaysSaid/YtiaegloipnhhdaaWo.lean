/- The document's Trim. Conditions: the Log lies in memory, of what it holds each instance's Replica is one; it holds few. -/
import Derived.Test.YtiaegloipnhhdaaWn
import Derived.Test.YtiaegloipnhhdaaWm
import Derived.Test.YtiaegloipnhhdaaWf
namespace Go.Proofs.Ytiaegloipnhhdaa
set_option maxRecDepth 100000
open Go.RowKit
/-- A bound of Trim. -/
def upN (d u : List Int) (k : Nat) : Int := max (ix d k) (min (max (ix u k) 0) 1073741824)
theorem upL_eq (d u : List Int) : (List.range 7).map (upN d u) = upL d u := rfl
/-- While the cut is raised. -/
structure Pb (base : Nat) (W w : World) (g : Nat) (vI vC : Value) (k : List Lc) (d u : List Int) : Prop where
  ro : Ro base w g vI vC k d
  bu : Row w W.heap.size 25 (cA u)
  kq : Kq (fun b => b = g) W w
section
variable {base g : Nat} {W w w' : World} {vI vC yI yC : Value} {k M : List Lc} {d u : List Int}
theorem Pb.drew (h : Pb base W w g vI vC k d u) : Pb base W w.drew g vI vC k d u := ⟨h.ro.drew, h.bu.drewN 1, h.kq.trans (Kq.of_below (kept_drewN (kept_refl w) 1)) (fun _ _ e => e)⟩
theorem Pb.putCut (h : Pb base W w g vI vC k d u) (hg : g < W.heap.size) (j : Nat) (z : Int) : Pb base W (w.setCell ⟨g, 2 + j, none⟩ (.int .i64 z)) g vI vC k (d.set j z) u :=
  ⟨h.ro.putCut j z, h.bu.grown (grown_put (grown_refl w (some g)) (2 + j) (.int .i64 z)) (fun e => by injection e with e; omega), h.kq.trans (Kq.grown (o := fun b => b = g) (grown_put (grown_refl w (some g)) (2 + j) (.int .i64 z)) (fun b e => by injection e with e; exact e.symm)) (fun _ _ e => e)⟩
/-- While what is left is gathered. -/
structure Pc (W w : World) (yI yC : Value) (M : List Lc) : Prop where
  low : Below W.heap.size W w
  ri : Rw W.heap.size 28 2 w yI (iV M)
  rc : Rw W.heap.size 37 21 w yC (cV M)
theorem Pc.below (h : Pc W w yI yC M) (hb : Below w.heap.size w w') : Pc W w' yI yC M := ⟨kept_trans h.low hb, h.ri.below hb, h.rc.below hb⟩
end
theorem own_ge {base sz : Nat} {e : TypeId} {w : World} {v : Value} {xs : List (List Value)} (h : Rw base e sz w v xs) : ∀ g, v.ownBlock = some g → base ≤ g := fun g hg => (h.lt g hg).1
set_option maxHeartbeats 16000000 in
theorem rtrim_any {base g : Nat} {w : World} {vI vC : Value} {k : List Lc} {d u : List Int} (h : Ro base w g vI vC k d) (hb : base ≤ w.heap.size) (hu : u.length = 7) (hl : k.length ≤ 1000) :
    Calls Try.prog 14 #[.pointer (some ⟨g, 0, none⟩), .agg (cA u)] w fun e w' => e = .returned (.tuple #[]) ∧ (∃ vI' vC', Ro base w' g vI' vC' (trimL ⟨k, d⟩ u).k (trimL ⟨k, d⟩ u).d) ∧ Kq (fun b => b = g) w w' := by
  obtain ⟨A, a, B, b, rfl, rfl, ha, hb2⟩ := h.form
  have hgw := h.lt
  have H0 := hide (show Pb base w (w.alloc (.cells (cA u) 25)) g (.slice A k.length a) (.slice B k.length b) k d u from ⟨h.alloc _, Row.new w _ _, Kq.of_below (kept_alloc (kept_refl w) _)⟩)
  have D7 := hide h.d7
  have U7 := hide hu
  have HB := hide hb
  obtain ⟨n, hn⟩ : ∃ n, k.length = n := ⟨_, rfl⟩
  rw [hn] at H0 ha hb2 hl
  have HN := hide hn
  clear h hb hu hn
  go_enter Try.func14, Try.ntmps14
  go_upto_region 1 with (fail)
  generalize w.alloc (.cells (cA u) 25) = w0 at H0 ⊢
  go_wp2
  go_loopw [4] (fun i wr => ∃ j : Nat, j ≤ 7 ∧ i = .int .i64 j ∧ Hid (Pb base w wr g (.slice A n a) (.slice B n b) k (genk (upN d u) d j) u)) (fun i _ => 7 - (intOf i).toNat)
  case atStart => exact ⟨0, by omega, rfl, hide (by rw [genk_0 _ D7.out]; exact H0.out)⟩
  case round =>
  clear H0
  obtain ⟨j, hj, rfl, HR⟩ := hrel
  by_cases hj7 : j < 7
  · have hj7i : (j : Int) < 7 := by omega
    have hj0i : (0 : Int) ≤ (j : Int) := by omega
    go_upto_region 4 with (fail)
    have f1 : wr.cell? ⟨g, 2 + j, none⟩ = some (.int .i64 (ix d j)) := by
      have := HR.out.ro.cut hj7
      rw [genk_at _ _ hj7] at this
      exact this
    have f2 : wr.cell? ⟨w.heap.size, j, none⟩ = some (.int .i64 (ix u j)) := cA_cellk HR.out.bu (by rw [U7.out]; exact hj7)
    have g1 : wr.frozen? ⟨g, 2 + j, none⟩ = false := HR.out.ro.row.free (2 + j)
    have H2 := hide (show Pb base w (wr.setCell ⟨g, 2 + j, none⟩ (.int .i64 (max (ix d j) (min (max (ix u j) 0) 1073741824)))).drew g (.slice A n a) (.slice B n b) k (genk (upN d u) d (j + 1)) u from by
      have h := (HR.out.putCut hgw j (upN d u j)).drew
      rw [genk_step] at h
      exact h)
    clear HR
    go_region
    clear f1 f2 g1
    generalize World.drew (World.setCell wr _ _) = wv at H2 ⊢
    go_wp2
    go_roundw
    case rel => exact ⟨j + 1, by omega, by go_num, H2⟩
    case measure => simp [intOf]; omega
  · obtain rfl : j = 7 := by omega
    rw [genk_7, upL_eq] at HR
    obtain ⟨D, hD⟩ : ∃ D, upL d u = D := ⟨_, rfl⟩
    have HD := hide hD
    rw [hD] at HR
    clear hD
    obtain ⟨w1, rfl⟩ : ∃ w1 : World, w1 = wr := ⟨_, rfl⟩
    have HO := hide (fun w' (hb : Below w1.heap.size w1 w') => HR.out.ro.below hb)
    have HGN := hide (fun w' (hb : Below w1.heap.size w1 w') (e : Lc) => rgone_any (HR.out.ro.below hb) e.i.1 e.i.2)
    have L8 := hide HR.out.ro.l8
    have HX0 := hide (HO.out w1 (Below.refl _ _))
    go_wp2
    go_loopw [5, 6, 7] (fun yI yC i wr => ∃ (j : Nat) (A2 : Option Addr) (m1 a2 : Nat) (B2 : Option Addr) (m2 b3 : Nat), j ≤ n ∧ yI = .slice A2 m1 a2 ∧ yC = .slice B2 m2 b3 ∧ i = .int .i64 j ∧ Hid (Pc w1 wr (.slice A2 m1 a2) (.slice B2 m2 b3) ((k.take j).filter fun e => !goneL D e.i))) (fun _ _ i _ => n - (intOf i).toNat)
    case atStart => exact ⟨0, none, 0, 0, none, 0, 0, by omega, rfl, rfl, rfl, hide ⟨Below.refl _ _, rw_nil _ _ _ _, rw_nil _ _ _ _⟩⟩
    case round =>
      obtain ⟨j, A2, m1, a2, B2, m2, b3, hj, rfl, rfl, rfl, HT⟩ := hrel
      have c0 := (HO.out _ HT.out.low).c0
      by_cases hjn : j < n
      · have hjni : (j : Int) < (n : Int) := by omega
        have hja : j < a := by omega
        have hjb : j < b := by omega
        have hjk : j < k.length := by rw [HN.out]; exact hjn
        obtain ⟨e, he⟩ : ∃ e, k[j]? = some e := ⟨_, List.getElem?_eq_getElem hjk⟩
        have HE := hide he
        have h8 := L8.out e (List.mem_of_getElem? he)
        have HTK := hide (show (k.take (j + 1)).filter (fun e => !goneL D e.i) = (k.take j).filter (fun e => !goneL D e.i) ++ [e].filter (fun e => !goneL D e.i) by rw [List.take_add_one, he]; exact List.filter_append ..)
        obtain ⟨gI, gC, rfl, rfl, l0, l1, _, _, _⟩ := (HO.out _ HT.out.low).at_ he
        have HG := hide (fun w' hb => HGN.out w' hb e)
        obtain ⟨q, hq⟩ : ∃ q, goneL D e.i = q := ⟨_, rfl⟩
        have hq2 : goneL D (e.i.1, e.i.2) = q := hq
        rw [hq2] at HG
        have HQ := hide hq
        clear hq hq2 he hjk
        cases q
        · go_upto_region 11 with (go_at_call 20; (with_reducible refine (HG.out _ HT.out.low).mono ?_); rintro x w2 ⟨rfl, hb2⟩; have HT := hide (HT.out.below hb2); clear hb2)
          clear c0 l0 l1 HG
          have HF := hide (show (k.take (j + 1)).filter (fun e => !goneL D e.i) = (k.take j).filter (fun e => !goneL D e.i) ++ [e] by rw [HTK.out]; simp [HQ.out])
          have hml : ((k.take j).filter (fun e => !goneL D e.i)).length ≤ 1000 := Nat.le_trans (List.length_filter_le _ _) (Nat.le_trans (List.length_take_le _ _) (by omega))
          generalize (k.take j).filter (fun e => !goneL D e.i) = M at HT HF hml
          have l1 : (iV M).length + 1 ≤ 1001 := by rw [iV_len]; omega
          have l2 : (cV M).length + 1 ≤ 1001 := by rw [cV_len]; omega
          clear HTK HQ hml
          have HC := hide (fun w' (hb : Below w1.heap.size w1 w') => (show w'.cell? ⟨g, 0, none⟩ = some (.slice (some ⟨gI, 0, none⟩) n a) ∧ w'.cell? ⟨g, 1, none⟩ = some (.slice (some ⟨gC, 0, none⟩) n b) ∧ w'.cell? ⟨gI, j * 2, none⟩ = some (.int .i64 e.i.1) ∧ w'.cell? ⟨gI, j * 2 + 1, none⟩ = some (.int .i64 e.i.2) ∧ w'.rangeAt gC (j * 21) e.c.l from by
            have h := HO.out _ hb
            obtain ⟨x, y, e1, e2, r0, r1, r2, _, _⟩ := h.at_ HE.out
            cases e1
            cases e2
            exact ⟨h.c0, h.c1, r0, r1, r2⟩))
          refine wp_region_noPanic ?_
          refine wp_region_U 21 (fun w' : World => Below w1.heap.size w1 w') (by kernel_rfl) ?_
          have HP := hide (HT.out.below (kept_drewN (kept_refl w2) 1))
          clear HT
          have hdr : w2.drewN 1 = w2.drew := rfl
          rw [hdr] at HP
          clear hdr
          generalize World.drew w2 = wd at HP ⊢
          have HD := hide (show (fun w' : World => Below w1.heap.size w1 w') wd from HP.out.low)
          refine anyU_take2 (i := 0) (v := .slice A2 m1 a2) (by simp only [List.getElem?_toArray, List.getElem?_cons_zero]; exact rfl) (by kernel_rfl) 12 (by kernel_rfl) (by kernel_rfl) (fun _ _ _ h => h) (by kernel_rfl) (by kernel_rfl) (by kernel_rfl) (by kernel_rfl) (Or.inl ⟨by rfl, fun w hSw => (by go_simp; try with_reducible rfl)⟩) (by with_reducible exact HD.out) ?_
          try simp only [Act.put, List.setIfInBounds_toArray, List.set_cons_zero, List.set_cons_succ]
          refine anyU_take2 (i := 1) (v := .pointer (some ⟨g, 0, none⟩)) (by simp only [List.getElem?_toArray, List.getElem?_cons_succ, List.getElem?_cons_zero]; exact rfl) (by kernel_rfl) 12 (by kernel_rfl) (by kernel_rfl) (fun _ _ _ h => h) (by kernel_rfl) (by kernel_rfl) (by kernel_rfl) (by kernel_rfl) (Or.inl ⟨by rfl, fun w hSw => (by go_simp; try with_reducible rfl)⟩) (by with_reducible exact HD.out) ?_
          try simp only [Act.put, List.setIfInBounds_toArray, List.set_cons_zero, List.set_cons_succ]
          refine anyU_take2 (i := 2) (v := .pointer (some ⟨g, 0, none⟩)) (by simp only [List.getElem?_toArray, List.getElem?_cons_succ, List.getElem?_cons_zero]; exact rfl) (by kernel_rfl) 12 (by kernel_rfl) (by kernel_rfl) (fun _ _ _ h => h) (by kernel_rfl) (by kernel_rfl) (by kernel_rfl) (by kernel_rfl) (Or.inl ⟨by rfl, fun w hSw => (by go_simp; try with_reducible rfl)⟩) (by with_reducible exact HD.out) ?_
          try simp only [Act.put, List.setIfInBounds_toArray, List.set_cons_zero, List.set_cons_succ]
          refine anyU_take2 (i := 3) (v := .pointer (some ⟨g, 0, none⟩)) (by simp only [List.getElem?_toArray, List.getElem?_cons_succ, List.getElem?_cons_zero]; exact rfl) (by kernel_rfl) 12 (by kernel_rfl) (by kernel_rfl) (fun _ _ _ h => h) (by kernel_rfl) (by kernel_rfl) (by kernel_rfl) (by kernel_rfl) (Or.inl ⟨by rfl, fun w hSw => (by go_simp; try with_reducible rfl)⟩) (by with_reducible exact HD.out) ?_
          try simp only [Act.put, List.setIfInBounds_toArray, List.set_cons_zero, List.set_cons_succ]
          refine anyU_take2 (i := 4) (v := .slice (some ⟨gI, 0, none⟩) n a) (by simp only [List.getElem?_toArray, List.getElem?_cons_succ, List.getElem?_cons_zero]; exact rfl) (by kernel_rfl) 12 (by kernel_rfl) (by kernel_rfl) (fun _ _ _ h => h) (by kernel_rfl) (by kernel_rfl) (by kernel_rfl) (by kernel_rfl) (Or.inl ⟨by rfl, fun w hSw => (by obtain ⟨x0, x1, x2, x3, _⟩ := HC.out w hSw; go_simp; try with_reducible rfl)⟩) (by with_reducible exact HD.out) ?_
          try simp only [Act.put, List.setIfInBounds_toArray, List.set_cons_zero, List.set_cons_succ]
          refine anyU_take2 (i := 5) (v := .int .i64 (j : Nat)) (by simp only [List.getElem?_toArray, List.getElem?_cons_succ, List.getElem?_cons_zero]; exact rfl) (by kernel_rfl) 12 (by kernel_rfl) (by kernel_rfl) (fun _ _ _ h => h) (by kernel_rfl) (by kernel_rfl) (by kernel_rfl) (by kernel_rfl) (Or.inl ⟨by rfl, fun w hSw => (by go_simp; try with_reducible rfl)⟩) (by with_reducible exact HD.out) ?_
          try simp only [Act.put, List.setIfInBounds_toArray, List.set_cons_zero, List.set_cons_succ]
          refine anyU_take2 (i := 6) (v := .pointer (some ⟨gI, j * 2, none⟩)) (by simp only [List.getElem?_toArray, List.getElem?_cons_succ, List.getElem?_cons_zero]; exact rfl) (by kernel_rfl) 12 (by kernel_rfl) (by kernel_rfl) (fun _ _ _ h => h) (by kernel_rfl) (by kernel_rfl) (by kernel_rfl) (by kernel_rfl) (Or.inl ⟨by rfl, fun w hSw => (by go_simp; try with_reducible rfl)⟩) (by with_reducible exact HD.out) ?_
          try simp only [Act.put, List.setIfInBounds_toArray, List.set_cons_zero, List.set_cons_succ]
          refine anyU_take2 (i := 7) (v := .agg #[.int .i64 e.i.1, .int .i64 e.i.2]) (by simp only [List.getElem?_toArray, List.getElem?_cons_succ, List.getElem?_cons_zero]; exact rfl) (by kernel_rfl) 12 (by kernel_rfl) (by kernel_rfl) (fun _ _ _ h => h) (by kernel_rfl) (by kernel_rfl) (by kernel_rfl) (by kernel_rfl) (Or.inl ⟨by rfl, fun w hSw => (by obtain ⟨x0, x1, x2, x3, _⟩ := HC.out w hSw; go_simp; try with_reducible rfl)⟩) (by with_reducible exact HD.out) ?_
          try simp only [Act.put, List.setIfInBounds_toArray, List.set_cons_zero, List.set_cons_succ]
          refine anyU_take2 (i := 10) (v := .slice B2 m2 b3) (by simp only [List.getElem?_toArray, List.getElem?_cons_succ, List.getElem?_cons_zero]; exact rfl) (by kernel_rfl) 12 (by kernel_rfl) (by kernel_rfl) (fun _ _ _ h => h) (by kernel_rfl) (by kernel_rfl) (by kernel_rfl) (by kernel_rfl) (Or.inl ⟨by rfl, fun w hSw => (by go_simp; try with_reducible rfl)⟩) (by with_reducible exact HD.out) ?_
          try simp only [Act.put, List.setIfInBounds_toArray, List.set_cons_zero, List.set_cons_succ]
          refine anyU_take2 (i := 11) (v := .pointer (some ⟨g, 0, none⟩)) (by simp only [List.getElem?_toArray, List.getElem?_cons_succ, List.getElem?_cons_zero]; exact rfl) (by kernel_rfl) 12 (by kernel_rfl) (by kernel_rfl) (fun _ _ _ h => h) (by kernel_rfl) (by kernel_rfl) (by kernel_rfl) (by kernel_rfl) (Or.inl ⟨by rfl, fun w hSw => (by go_simp; try with_reducible rfl)⟩) (by with_reducible exact HD.out) ?_
          try simp only [Act.put, List.setIfInBounds_toArray, List.set_cons_zero, List.set_cons_succ]
          refine anyU_take2 (i := 12) (v := .pointer (some ⟨g, 0, none⟩)) (by simp only [List.getElem?_toArray, List.getElem?_cons_succ, List.getElem?_cons_zero]; exact rfl) (by kernel_rfl) 12 (by kernel_rfl) (by kernel_rfl) (fun _ _ _ h => h) (by kernel_rfl) (by kernel_rfl) (by kernel_rfl) (by kernel_rfl) (Or.inl ⟨by rfl, fun w hSw => (by go_simp; try with_reducible rfl)⟩) (by with_reducible exact HD.out) ?_
          try simp only [Act.put, List.setIfInBounds_toArray, List.set_cons_zero, List.set_cons_succ]
          refine anyU_take2 (i := 13) (v := .pointer (some ⟨g, 1, none⟩)) (by simp only [List.getElem?_toArray, List.getElem?_cons_succ, List.getElem?_cons_zero]; exact rfl) (by kernel_rfl) 12 (by kernel_rfl) (by kernel_rfl) (fun _ _ _ h => h) (by kernel_rfl) (by kernel_rfl) (by kernel_rfl) (by kernel_rfl) (Or.inl ⟨by rfl, fun w hSw => (by go_simp; try with_reducible rfl)⟩) (by with_reducible exact HD.out) ?_
          try simp only [Act.put, List.setIfInBounds_toArray, List.set_cons_zero, List.set_cons_succ]
          refine anyU_take2 (i := 14) (v := .slice (some ⟨gC, 0, none⟩) n b) (by simp only [List.getElem?_toArray, List.getElem?_cons_succ, List.getElem?_cons_zero]; exact rfl) (by kernel_rfl) 12 (by kernel_rfl) (by kernel_rfl) (fun _ _ _ h => h) (by kernel_rfl) (by kernel_rfl) (by kernel_rfl) (by kernel_rfl) (Or.inl ⟨by rfl, fun w hSw => (by obtain ⟨x0, x1, x2, x3, _⟩ := HC.out w hSw; go_simp; try with_reducible rfl)⟩) (by with_reducible exact HD.out) ?_
          try simp only [Act.put, List.setIfInBounds_toArray, List.set_cons_zero, List.set_cons_succ]
          refine anyU_take2 (i := 15) (v := .int .i64 (j : Nat)) (by simp only [List.getElem?_toArray, List.getElem?_cons_succ, List.getElem?_cons_zero]; exact rfl) (by kernel_rfl) 12 (by kernel_rfl) (by kernel_rfl) (fun _ _ _ h => h) (by kernel_rfl) (by kernel_rfl) (by kernel_rfl) (by kernel_rfl) (Or.inl ⟨by rfl, fun w hSw => (by go_simp; try with_reducible rfl)⟩) (by with_reducible exact HD.out) ?_
          try simp only [Act.put, List.setIfInBounds_toArray, List.set_cons_zero, List.set_cons_succ]
          refine anyU_take2 (i := 16) (v := .pointer (some ⟨gC, j * 21, none⟩)) (by simp only [List.getElem?_toArray, List.getElem?_cons_succ, List.getElem?_cons_zero]; exact rfl) (by kernel_rfl) 12 (by kernel_rfl) (by kernel_rfl) (fun _ _ _ h => h) (by kernel_rfl) (by kernel_rfl) (by kernel_rfl) (by kernel_rfl) (Or.inl ⟨by rfl, fun w hSw => (by go_simp; try with_reducible rfl)⟩) (by with_reducible exact HD.out) ?_
          try simp only [Act.put, List.setIfInBounds_toArray, List.set_cons_zero, List.set_cons_succ]
          refine anyU_take2 (i := 17) (v := .agg (clC e.c)) (by simp only [List.getElem?_toArray, List.getElem?_cons_succ, List.getElem?_cons_zero]; exact rfl) (by kernel_rfl) 12 (by kernel_rfl) (by kernel_rfl) (fun _ _ _ h => h) (by kernel_rfl) (by kernel_rfl) (by kernel_rfl) (by kernel_rfl) (Or.inl ⟨by rfl, fun w hSw => exec_load_gp rfl rfl (HC.out _ hSw).2.2.2.2 ce_under rfl (by rw [Cl.len h8]; exact ce_info)⟩) (by with_reducible exact HD.out) ?_
          try simp only [Act.put, List.setIfInBounds_toArray, List.set_cons_zero, List.set_cons_succ]
          change anyU _ _ _ _ _ 21 (2 + 4) _ _ _
          have h1 : Ap (.slice A2 m1 a2) (.slice B2 m2 b3) := rw_ap HP.out.ri HP.out.rc (by decide)
          have HS2 := hide (show ∀ w', Kp3 (Value.slice A2 m1 a2).ownBlock (Value.slice B2 m2 b3).ownBlock none wd w' → (fun w' : World => Below w1.heap.size w1 w') w' from fun w' hk => hk.below HP.out.low HP.out.low.size (own_ge HP.out.ri) (own_ge HP.out.rc) (fun g e => by cases e))
          refine chainsU2o_go (c1 := ⟨56, 57, 28, 2, iV M, [.int .i64 e.i.1, .int .i64 e.i.2], .slice A2 m1 a2⟩) (c2 := ⟨66, 67, 37, 21, cV M, e.c.l, .slice B2 m2 b3⟩) (base := w1.heap.size) (ou1 := .tmp 55) (os1 := .tmp 48) (ou2 := .tmp 65) (os2 := .tmp 58) (b1 := 8) (a1 := 9) (b2 := 18) (a2 := 19)
            (op2m_of elm_inst (by decide) rfl (fun u hu => by simp at hu; rcases hu with rfl | rfl <;> rfl) (lit_inst e.i.1 e.i.2) (by simp only [List.getElem?_toArray, List.getElem?_cons_succ, List.getElem?_cons_zero]; exact rfl) rfl rfl rfl (by simp only [List.getElem?_toArray, List.getElem?_cons_succ, List.getElem?_cons_zero]; exact rfl) rfl rfl rfl l1)
            (op2m_of elm_cell (by decide) (Cl.len h8) (one_cl e.c) (fun w => lit_cell h8 w) (by simp only [List.getElem?_toArray, List.getElem?_cons_succ, List.getElem?_cons_zero]; exact rfl) rfl rfl rfl (by simp only [List.getElem?_toArray, List.getElem?_cons_succ, List.getElem?_cons_zero]; exact rfl) rfl rfl rfl l2)
            (by kernel_rfl) (by decide) (show [56, 57, 66, 67].Nodup by decide) (by simp) rfl rfl rfl rfl (show 56 < _ from Nat.le_of_ble_eq_true (by kernel_rfl)) (show 66 < _ from Nat.le_of_ble_eq_true (by kernel_rfl)) HP.out.ri HP.out.rc h1 HP.out.low.size (fun w' hk => HS2.out w' hk) (fun p1 y1 p2 y2 wz hr1 hr2 hp1 hkp => ?_)
          have HD := hide (HS2.out wz hkp)
          have HN2 := hide (show Pc w1 wz y1 y2 (M ++ [e]) from ⟨HD.out, by rw [iV_app]; exact hr1, by rw [cV_app]; exact hr2⟩)
          obtain ⟨A3, a3, hy1, -, -, -, -⟩ := els_own_form hr1
          obtain ⟨B3, b4, hy2, -, -, -, -⟩ := els_own_form hr2
          generalize (iV M ++ [[Value.int .i64 e.i.1, Value.int .i64 e.i.2]]).length = m3 at hy1
          generalize (cV M ++ [e.c.l]).length = m4 at hy2
          clear hkp hr1 hr2 hp1 h1 l1 l2 HS2
          subst hy1 hy2
          try simp only [Act.put, List.setIfInBounds_toArray, List.set_cons_zero, List.set_cons_succ]
          refine anyU_take2 (i := 20) (v := .slice A3 m3 a3) (by simp only [List.getElem?_toArray, List.getElem?_cons_succ, List.getElem?_cons_zero]; exact rfl) (by kernel_rfl) 12 (by kernel_rfl) (by kernel_rfl) (fun _ _ _ h => h) (by kernel_rfl) (by kernel_rfl) (by kernel_rfl) (by kernel_rfl) (Or.inl ⟨by rfl, fun w hSw => (by go_simp; try with_reducible rfl)⟩) (by with_reducible exact HD.out) ?_
          try simp only [Act.put, List.setIfInBounds_toArray, List.set_cons_zero, List.set_cons_succ]
          refine anyU_one (i := 21) (by kernel_rfl) (by simp only [List.getElem?_toArray, List.getElem?_cons_succ, List.getElem?_cons_zero]; exact rfl) (fun K hK => ?_)
          try go_simp
          refine hK.out _ _ (fun e _ => absurd rfl e) ?_
          clear hK K
          try simp only [Act.put]
          refine anyU_done (by kernel_rfl) ?_
          refine NoPanic.normal ?_
          try simp only [Act.put]
          clear HP HD
          go_wp2
          go_roundw
          case rel => exact ⟨.slice A3 m3 a3, .slice B3 m4 b4, .int .i64 ((j + 1 : Nat) : Int), ⟨j + 1, by omega, A3, m3, a3, rfl, B3, m4, b4, rfl, rfl, hide (by rw [HF.out]; exact HN2.out)⟩, rfl, rfl, by go_num⟩
          case measure => simp [intOf]; omega
        · go_wp2_with (go_at_call 20; (with_reducible refine (HG.out _ HT.out.low).mono ?_); rintro x w2 ⟨rfl, hb2⟩; have HT := hide (HT.out.below hb2); clear hb2)
          go_roundw
          case rel =>
            iterate 42 apply Exists.intro
            refine ⟨?_, rfl⟩
            exact ⟨j + 1, A2, m1, a2, B2, m2, b3, by omega, rfl, rfl, by go_num, hide (by rw [HTK.out, show [e].filter (fun e => !goneL D e.i) = [] by simp [HQ.out], List.append_nil]; exact HT.out)⟩
          case measure => simp [intOf]; omega
      · obtain rfl : j = n := by omega
        have hk : k.take j = k := List.take_of_length_le (by rw [HN.out]; exact Nat.le_refl _)
        rw [hk] at HT
        have f0 := (HO.out _ HT.out.low).row.free 0
        have z1 : (wr.setCell ⟨g, 0, none⟩ (.slice A2 m1 a2)).cell? ⟨g, 1, none⟩ = some (.slice B j b) := ((HO.out _ HT.out.low).row.put 0 _).cell 1
        have f1 : World.frozen? (wr.setCell ⟨g, 0, none⟩ (.slice A2 m1 a2)) ⟨g, 1, none⟩ = false := ((HO.out _ HT.out.low).row.put 0 _).free 1
        have HZ := hide (show Ro w1.heap.size ((wr.setCell ⟨g, 0, none⟩ (.slice A2 m1 a2)).setCell ⟨g, 1, none⟩ (.slice B2 m2 b3)) g (.slice A2 m1 a2) (.slice B2 m2 b3) (k.filter fun e => !goneL D e.i) D ∧ wr.grownBy ((wr.setCell ⟨g, 0, none⟩ (.slice A2 m1 a2)).setCell ⟨g, 1, none⟩ (.slice B2 m2 b3)) (some g) from Ro.put2 (HO.out _ HT.out.low).row HT.out.ri HT.out.rc (HO.out _ HT.out.low).d7 (fun e he => L8.out e (List.mem_filter.1 he).1))
        go_wp2
        refine bodyPost_end (results_none rfl _ _ _) rfl ⟨rfl, ⟨.slice A2 m1 a2, .slice B2 m2 b3, ?_⟩, ?_⟩
        · show Ro base _ g _ _ (k.filter fun e => !goneL (upL d u) e.i) (upL d u)
          rw [HD.out]
          exact HZ.out.1.low (Nat.le_trans HB.out HR.out.kq.size)
        · exact (HR.out.kq.trans (Kq.of_below HT.out.low) (fun _ _ h => h)).trans (Kq.grown (o := fun b => b = g) HZ.out.2 (fun b e => by injection e with e; exact e.symm)) (fun _ _ h => h)
end Go.Proofs.Ytiaegloipnhhdaa
/- Commands, attributes, ballots held against each other by !=, ==, in plain words. Conditions: attributes are eight numbers. -/
namespace Go.Proofs.Ytiaegloipnhhdaa
set_option maxRecDepth 100000
open Go.RowKit
theorem neq_cm (x y : Cm) (w : World) : (binOp .neq 33 (.agg #[.int .i64 x.k, .int .i64 x.c, .int .i64 x.q, .string x.key, .string x.en, .string x.old, .string x.val]) (.agg #[.int .i64 y.k, .int .i64 y.c, .int .i64 y.q, .string y.key, .string y.en, .string y.old, .string y.val])).run Try.prog w = .ok (.bool (!sameC x y)) w := by
  rw [run_neq_struct, show (10000 : Nat) = 9998 + 2 from rfl, eqd_cmd]
  rfl
theorem eql_bal (x y : Int × Int) (w : World) : (binOp .eql 31 (.agg #[.int .i64 x.1, .int .i64 x.2]) (.agg #[.int .i64 y.1, .int .i64 y.2])).run Try.prog w = .ok (.bool (sameP x y)) w := by
  rw [run_eql_struct, show (10000 : Nat) = 9998 + 2 from rfl, eqd_bal]
  rfl
theorem neq_at {x y : List Int} (hx : x.length = 8) (hy : y.length = 8) (w : World) : (binOp .neq 35 (.agg (cA x)) (.agg (cA y))).run Try.prog w = .ok (.bool (!decide (x = y))) w := by
  obtain ⟨a0, a1, a2, a3, a4, a5, a6, a7, rfl⟩ := len8 hx
  obtain ⟨b0, b1, b2, b3, b4, b5, b6, b7, rfl⟩ := len8 hy
  have h := neq_attr a0 a1 a2 a3 a4 a5 a6 a7 b0 b1 b2 b3 b4 b5 b6 b7 w
  exact h
end Go.Proofs.Ytiaegloipnhhdaa
