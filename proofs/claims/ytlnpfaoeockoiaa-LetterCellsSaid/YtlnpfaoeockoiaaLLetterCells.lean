/- Proved: the law LetterCells returns true for any cells. No condition. -/
import Derived.Test.YtlnpfaoeockoiaaWa
import Derived.Test.YtlnpfaoeockoiaaWzs
namespace Go.Proofs.Ytlnpfaoeockoiaa.letterCells
open Go.ChangeShapes Go.WideShapes Go.ChangeAt Go.RowKit
/-- While the cells are written: the bytes, the right ones. -/
structure Cq (W w : World) (vb vw : Value) (ws : List Cl) : Prop where
  y : By W.heap.size w vb (encCs ws)
  c : Cw W.heap.size w vw ws
  old : Below W.heap.size W w
  ok : ∀ x, x ∈ ws → rightCl x = true ∧ x.a.length = 8
theorem cq_kept {W w w' : World} {vb vw : Value} {ws : List Cl} (h : Cq W w vb vw ws) (hb : Below w.heap.size w w') : Cq W w' vb vw ws := ⟨h.y.below hb, h.c.below hb, kept_trans h.old hb, h.ok⟩
/-- While they are read: the reader, the row of right ones. -/
structure Cr (W w : World) (g gw : Nat) (ws : List Cl) (j : Nat) : Prop where
  r : Rdr 99 w g g (encCs ws) (encCs (ws.take j)).length 0
  c : ∀ k x, ws[k]? = some x → gw < g ∧ w.rangeAt gw (k * 21) x.l
  old : Below W.heap.size W w
  lg : W.heap.size ≤ g
theorem range_same {w w' : World} {g o : Nat} {l : List Value} (h : w.rangeAt g o l) (hg : w'.heap[g]? = w.heap[g]?) : w'.rangeAt g o l := fun i v hv => (World.cell?_of_block (w := w) (a := ⟨g, o + i, none⟩) hg).trans (h i v hv)
set_option maxHeartbeats 16000000 in
theorem walk (A : Option Addr) (n c : Nat) (l : List Cl) (W : World) (hs : ClsIn W A n c l) :
    Calls Try.prog 8 #[.slice A n c] W fun e w' => e = .returned (.bool true) ∧ Below W.heap.size W w' := by
  have HS := hide hs
  have hn : n ≤ 9223372036854775807 := by have h1 := hs.le; have h2 := hs.room; omega
  have HN := hide hs.len
  clear hs
  go_enter Try.func8, Try.ntmps8
  go_wp2
  go_loopw [3, 4, 5] (fun vb vw i wr => ∃ (k : Nat) (ws : List Cl), k ≤ n ∧ k ≤ 10 ∧ i = .int .i64 k ∧ Hid (ws.length ≤ k) ∧ Hid (Cq W wr vb vw ws)) (fun _ _ i _ => 10 - (intOf i).toNat)
  case atStart => exact ⟨0, [], by omega, by omega, rfl, hide (Nat.le_refl _), hide ⟨By.nil_ _ _, Cw.nil_ _ _, Below.refl _ _, fun _ h => by cases h⟩⟩
  case round =>
    obtain ⟨k, ws, hk, hk10, rfl, HW, CQ⟩ := hrel
    obtain ⟨Ab, cb, rfl, _, hcb1, hcb2, _⟩ := CQ.out.y.form
    obtain ⟨Aw, cw, rfl, hcw1, hcw2⟩ := CQ.out.c.form
    have hel : (encCs ws).length ≤ 4310 := by have := encCs_len (l := ws) (fun x hx => (CQ.out.ok x hx).2); have := HW.out; omega
    by_cases hlt : k < n ∧ k < 10
    · obtain ⟨h1, h2⟩ := hlt
      have h1i : (k : Int) < (n : Int) := by omega
      have h2i : (k : Int) < 10 := by omega
      have hkl : k < l.length := by rw [HN.out]; exact h1
      obtain ⟨x, hx⟩ : ∃ x, l[k]? = some x := ⟨_, List.getElem?_eq_getElem hkl⟩
      have hin := HS.out.ok x (List.mem_of_getElem? hx)
      have HX := hide hx
      have HI := hide hin
      obtain ⟨gl, off, hA, _⟩ := HS.out.at_ CQ.out.old hx
      subst hA
      have HC := hide (fun w (hb : Below W.heap.size W w) => (show w.rangeAt gl (off + k * 21) x.l from by obtain ⟨g', o', e, h⟩ := HS.out.at_ hb HX.out; cases e; exact h))
      have HL := hide (fun w => light_any _ (ltin_x HI.out) w)
      have h8 := hin.a
      clear hx hkl hin
      obtain ⟨nb, hnb⟩ : ∃ nb, (encCs ws).length = nb := ⟨_, rfl⟩
      rw [hnb] at hel hcb1 CQ ⊢
      have HNB := hide hnb
      obtain ⟨nw, hnw⟩ : ∃ nw, ws.length = nw := ⟨_, rfl⟩
      rw [hnw] at HW hcw1 CQ ⊢
      have HNW := hide hnw
      clear hnb hnw
      cases hq : lightB { zeroLt with x := x }
      · simp only [hq] at HL
        clear hq
        go_wp2_with (first
          | ((with_reducible refine wpList_load_ce h8 ?_ ?_ (HC.out _ CQ.out.old) ?_); rfl; rfl)
          | ((with_reducible refine wpList_build_one (i := 7) (u := .agg (clC x)) ?_ ?_ (fill_lx h8 _) ?_); rfl; rfl)
          | (go_at_call 12; (with_reducible refine (HL.out _).mono ?_); rintro e w2 ⟨rfl, hb⟩; have CQ := hide (cq_kept CQ.out hb); clear hb))
        go_roundw
        case rel => exact ⟨k + 1, ws, by omega, by omega, by go_num, hide (by rw [HNW.out]; have := HW.out; omega), CQ⟩
        case measure => simp [intOf]; omega
      · simp only [hq] at HL
        clear hq
        have HP := hide (fun w (h : By W.heap.size w (.slice Ab nb cb) (encCs ws)) => pputcell_any (w := w) h.sl (by rw [HNB.out]; omega) x h8)
        have HRP := hide (fun w => prightcell_any x h8 w)
        cases hr : rightCl x
        · simp only [hr] at HRP
          have HP := hide (fun w h => (HP.out w h).mono fun e w' hm => made_len (L := nb) (zs := encCs ws) HNB.out (show MadeB w (encCs ws) e w' from by rw [encCl_wrong hr, List.append_nil] at hm; exact hm))
          clear hr
          go_wp2_with (first
            | ((with_reducible refine wpList_load_ce h8 ?_ ?_ (HC.out _ CQ.out.old) ?_); rfl; rfl)
            | ((with_reducible refine wpList_build_one (i := 7) (u := .agg (clC x)) ?_ ?_ (fill_lx h8 _) ?_); rfl; rfl)
            | (go_at_call 12; (with_reducible refine (HL.out _).mono ?_); rintro e w2 ⟨rfl, hb⟩; have CQ := hide (cq_kept CQ.out hb); clear hb)
            | (go_at_call 19; (with_reducible refine (HP.out _ CQ.out.y).mono ?_); rintro e w3 ⟨B3, d3, rfl, hy, hb⟩; have CQ := hide (show Cq W w3 (.slice B3 nb d3) (.slice Aw nw cw) ws from ⟨hy.mono CQ.out.old.size, CQ.out.c.below hb, kept_trans CQ.out.old hb, CQ.out.ok⟩); clear hb hy)
            | (go_at_call 15; (with_reducible refine (HRP.out _).mono ?_); rintro e w4 ⟨rfl, hb⟩; have CQ := hide (cq_kept CQ.out hb); clear hb))
          go_roundw
          case rel => exact ⟨k + 1, ws, by omega, by omega, by go_num, hide (by rw [HNW.out]; have := HW.out; omega), CQ⟩
          case measure => simp [intOf]; omega
        · simp only [hr] at HRP
          obtain ⟨L2, hL2⟩ : ∃ L2, (encCs ws ++ encCl x).length = L2 := ⟨_, rfl⟩
          have hgt : nb < L2 := by
            rw [← hL2, List.length_append, HNB.out, encCl_right hr]
            have := (encX_len h8).1
            omega
          have hgti : (nb : Int) < (L2 : Int) := by omega
          have HP := hide (fun w h => (HP.out w h).mono fun e w' hm => made_len (L := L2) hL2 hm)
          have HE := hide (show encCs (ws ++ [x]) = encCs ws ++ encCl x from encCs_snoc ws x)
          have HR := hide hr
          have hnw10 : ws.length ≤ 100000 := by have := HW.out; rw [HNW.out]; omega
          clear hr hL2
          go_upto_region 11 with (first
            | ((with_reducible refine wpList_load_ce h8 ?_ ?_ (HC.out _ CQ.out.old) ?_); rfl; rfl)
            | ((with_reducible refine wpList_load_ce h8 ?_ ?_ (HC.out _ CT.out.2.2) ?_); rfl; rfl)
            | ((with_reducible refine wpList_build_one (i := 7) (u := .agg (clC x)) ?_ ?_ (fill_lx h8 _) ?_); rfl; rfl)
            | (go_at_call 12; (with_reducible refine (HL.out _).mono ?_); rintro e w2 ⟨rfl, hb⟩; have CQ := hide (cq_kept CQ.out hb); clear hb)
            | (go_at_call 19; (with_reducible refine (HP.out _ CQ.out.y).mono ?_); rintro e w3 ⟨B3, d3, rfl, hy, hb⟩; have CT := hide (show By W.heap.size w3 (.slice B3 L2 d3) (encCs ws ++ encCl x) ∧ Cw W.heap.size w3 (.slice Aw nw cw) ws ∧ Below W.heap.size W w3 from ⟨hy.mono CQ.out.old.size, CQ.out.c.below hb, kept_trans CQ.out.old hb⟩); clear hb hy)
            | (go_at_call 15; (with_reducible refine (HRP.out _).mono ?_); rintro e w4 ⟨rfl, hb⟩; have CT := hide (show By W.heap.size w4 (.slice B3 L2 d3) (encCs ws ++ encCl x) ∧ Cw W.heap.size w4 (.slice Aw nw cw) ws ∧ Below W.heap.size W w4 from ⟨CT.out.1.below hb, CT.out.2.1.below hb, kept_trans CT.out.2.2 hb⟩); clear hb))
          have CA := hide (show By W.heap.size (w4.alloc (.cells (clC x) 35)) (.slice B3 L2 d3) (encCs ws ++ encCl x) ∧ Cw W.heap.size (w4.alloc (.cells (clC x) 35)) (.slice Aw nw cw) ws ∧ Below W.heap.size W (w4.alloc (.cells (clC x) 35)) from ⟨CT.out.1.below (kept_alloc (kept_refl _) _), CT.out.2.1.below (kept_alloc (kept_refl _) _), kept_alloc CT.out.2.2 _⟩)
          have hbase := CA.out.2.2.size
          go_upto_region 5 with (first
            | ((with_reducible refine wpList_load_ce h8 ?_ ?_ (HC.out _ CT.out.2.2) ?_); rfl; rfl)
            | ((with_reducible refine wpList_lit_cell h8 ?_ ?_); rfl)
            | (at_builtin; refine wpList_append_cell rfl (.tmp 48) (.tmp 53) rfl (v := .slice Aw nw cw) (L := ws) (y := x) rfl CA.out.2.1 rfl (Row.new w4 _ _) h8 hnw10 hbase ?_; intro v5 w5 hc5 hg5; have CQ2 := hide (show Cq W w5 (.slice B3 L2 d3) v5 (ws ++ [x]) from ⟨by rw [HE.out]; exact CA.out.1.apart CA.out.2.1 hg5, hc5, CA.out.2.2.trans (CA.out.2.1.grown hg5 hbase), fun z hz => (List.mem_append.1 hz).elim (CQ.out.ok z) (fun h1 => by rw [List.mem_singleton.1 h1]; exact ⟨HR.out, h8⟩)⟩); clear hc5 hg5))
          clear hbase hnw10 CA CT
          go_wp2
          go_roundw
          case rel => exact ⟨k + 1, ws ++ [x], by omega, by omega, by go_num, hide (by rw [List.length_append, HNW.out]; have := HW.out; simp; omega), CQ2⟩
          case measure => simp [intOf]; omega
    · obtain ⟨wo, rfl⟩ : ∃ wo : World, wo = wr := ⟨_, rfl⟩
      have HO := hide (octets_encCs ws)
      obtain ⟨gw, hgw⟩ := CQ.out.c.lies
      have HLI := hide (Lies.of_own CQ.out.y)
      obtain ⟨A', c', e', hA0, _⟩ := CQ.out.y.form
      have hA0' : Ab = none → cb = 0 := fun h => hA0 (by injection e' with e1; rw [← e1]; exact h) |> fun h => (by injection e' with _ _ e3; rw [e3]; exact h)
      clear hA0 e'
      obtain ⟨nb, hnb⟩ : ∃ nb, (encCs ws).length = nb := ⟨_, rfl⟩
      rw [hnb] at hel hcb1 CQ ⊢
      obtain ⟨nw, hnw⟩ : ∃ nw, ws.length = nw := ⟨_, rfl⟩
      rw [hnw] at HW hcw1 CQ ⊢
      have hnw10 : nw ≤ 10 := by have := HW.out; omega
      have HGW := hide hgw
      have HRD := hide (pread_any Ab nb cb (encCs ws) wo hnb HLI.out HO.out hA0' (by omega))
      have HNB := hide hnb
      have HNW := hide hnw
      clear hnb hnw hgw
      have hcases : ¬ k < n ∨ (k < n ∧ ¬ k < 10) := by omega
      clear hlt HN HS
      rcases hcases with h1 | ⟨h1, h2⟩
      · have h1i : ¬ (k : Int) < (n : Int) := by omega
        go_upto_region 14 with (go_at_call 23; (with_reducible refine HRD.out.mono ?_); rintro x w2 ⟨g, rfl, hg, hr, hb⟩; have CR := hide (show Cr W w2 g gw ws 0 from ⟨hr, fun k x hk => ⟨Nat.lt_of_lt_of_le (HGW.out k x hk).2.1 hg, range_same (HGW.out k x hk).2.2 (hb.block gw (HGW.out k x hk).2.1)⟩, kept_trans CQ.out.old hb, Nat.le_trans CQ.out.old.size hg⟩); clear hg hr hb HRD)
        go_wp2
        go_loopw [8] (fun i wr => ∃ j : Nat, j ≤ nw ∧ i = .int .i64 j ∧ Hid (Cr W wr g gw ws j)) (fun i _ => nw - (intOf i).toNat)
        case atStart => exact ⟨0, by omega, rfl, CR⟩
        case round =>
          clear CR
          obtain ⟨j, hj, rfl, CR⟩ := hrel
          by_cases hlt : j < nw
          · have hlti : (j : Int) < (nw : Int) := by omega
            have hjc : j < cw := by omega
            have hjw : j < ws.length := by rw [HNW.out]; exact hlt
            have hx : ws[j]? = some ws[j] := List.getElem?_eq_getElem hjw
            have HNX := hide (cell_next hjw CQ.out.ok)
            have h8 := (CQ.out.ok _ (List.getElem_mem hjw)).2
            have hA := (HGW.out j _ hx).1
            have HCE := hide ((CR.out.c j _ hx).2)
            have hgwg := (CR.out.c j _ hx).1
            have HG := hide (Nat.lt_trans hgwg CR.out.r.lt)
            generalize ws[j] = x at HNX h8 HCE
            have HNE := hide (fun w => (by have h := neq_cell h8 h8 w; rw [sameCl_iff.2 rfl] at h; exact h : (binOp .neq 35 (.agg (clC x)) (.agg (clC x))).run Try.prog w = .ok (.bool false) w))
            subst hA
            clear hx hjw
            go_upto_region 17 with (fail)
            refine wp_region_noPanic ?_
            refine wp_region_U 10 (fun w' => w'.heap[gw]? = wr.heap[gw]? ∧ gw < w'.heap.size) (by kernel_rfl) ?_
            have HD := hide (show (fun w' => w'.heap[gw]? = wr.heap[gw]? ∧ gw < w'.heap.size) wr.drew from ⟨rfl, HG.out⟩)
            have HRR := hide (CR.out.r.drewN 1)
            have HBB := hide (show Below W.heap.size W (wr.drewN 1) from kept_trans CR.out.old (kept_drewN (kept_refl _) 1))
            have HGG := hide (fun (w : World) (h : w.heap[gw]? = wr.heap[gw]?) => range_same HCE.out h)
            have hdr : wr.drewN 1 = wr.drew := rfl
            rw [hdr] at HRR HBB
            clear hdr
            have HGC := hide (pgetcell_g HRR.out)
            generalize wr.drew = w3 at HD HRR HBB HGC ⊢
            refine anyU_take2 (i := 0) (v := .pointer (some ⟨g, 0, none⟩)) (by simp only [List.getElem?_toArray, List.getElem?_cons_zero]; exact rfl) (by kernel_rfl) 12 (by kernel_rfl) (by kernel_rfl) (fun _ _ _ h => h) (by kernel_rfl) (by kernel_rfl) (by kernel_rfl) (by kernel_rfl) (Or.inl ⟨by rfl, fun w hSw => (by go_simp; try with_reducible rfl)⟩) (by with_reducible exact HD.out) ?_
            try simp only [Act.put, List.setIfInBounds_toArray, List.set_cons_zero, List.set_cons_succ]
            refine anyU_take2 (i := 1) (v := .bool false) (by simp only [List.getElem?_toArray, List.getElem?_cons_succ, List.getElem?_cons_zero]; exact rfl) (by kernel_rfl) 12 (by kernel_rfl) (by kernel_rfl) (fun _ _ _ h => h) (by kernel_rfl) (by kernel_rfl) (by kernel_rfl) (by kernel_rfl) (Or.inl ⟨by rfl, fun w hSw => (by go_simp; try with_reducible rfl)⟩) (by with_reducible exact HD.out) ?_
            try simp only [Act.put, List.setIfInBounds_toArray, List.set_cons_zero, List.set_cons_succ]
            refine anyU_take2 (i := 2) (v := .bool false) (by simp only [List.getElem?_toArray, List.getElem?_cons_succ, List.getElem?_cons_zero]; exact rfl) (by kernel_rfl) 12 (by kernel_rfl) (by kernel_rfl) (fun _ _ _ h => h) (by kernel_rfl) (by kernel_rfl) (by kernel_rfl) (by kernel_rfl) (Or.inl ⟨by rfl, fun w hSw => (by go_simp; try with_reducible rfl)⟩) (by with_reducible exact HD.out) ?_
            try simp only [Act.put, List.setIfInBounds_toArray, List.set_cons_zero, List.set_cons_succ]
            refine anyU_take2 (i := 3) (v := .pointer (some ⟨g, 0, none⟩)) (by simp only [List.getElem?_toArray, List.getElem?_cons_succ, List.getElem?_cons_zero]; exact rfl) (by kernel_rfl) 12 (by kernel_rfl) (by kernel_rfl) (fun _ _ _ h => h) (by kernel_rfl) (by kernel_rfl) (by kernel_rfl) (by kernel_rfl) (Or.inl ⟨by rfl, fun w hSw => (by go_simp; try with_reducible rfl)⟩) (by with_reducible exact HD.out) ?_
            try simp only [Act.put, List.setIfInBounds_toArray, List.set_cons_zero, List.set_cons_succ]
            refine anyU_take2 (i := 5) (v := .slice (some ⟨gw, 0, none⟩) nw cw) (by simp only [List.getElem?_toArray, List.getElem?_cons_succ, List.getElem?_cons_zero]; exact rfl) (by kernel_rfl) 12 (by kernel_rfl) (by kernel_rfl) (fun _ _ _ h => h) (by kernel_rfl) (by kernel_rfl) (by kernel_rfl) (by kernel_rfl) (Or.inl ⟨by rfl, fun w hSw => (by go_simp; try with_reducible rfl)⟩) (by with_reducible exact HD.out) ?_
            try simp only [Act.put, List.setIfInBounds_toArray, List.set_cons_zero, List.set_cons_succ]
            refine anyU_take2 (i := 6) (v := .int .i64 (j : Int)) (by simp only [List.getElem?_toArray, List.getElem?_cons_succ, List.getElem?_cons_zero]; exact rfl) (by kernel_rfl) 12 (by kernel_rfl) (by kernel_rfl) (fun _ _ _ h => h) (by kernel_rfl) (by kernel_rfl) (by kernel_rfl) (by kernel_rfl) (Or.inl ⟨by rfl, fun w hSw => (by go_simp; try with_reducible rfl)⟩) (by with_reducible exact HD.out) ?_
            try simp only [Act.put, List.setIfInBounds_toArray, List.set_cons_zero, List.set_cons_succ]
            refine anyU_take2 (i := 7) (v := .pointer (some ⟨gw, j * 21, none⟩)) (by simp only [List.getElem?_toArray, List.getElem?_cons_succ, List.getElem?_cons_zero]; exact rfl) (by kernel_rfl) 12 (by kernel_rfl) (by kernel_rfl) (fun _ _ _ h => h) (by kernel_rfl) (by kernel_rfl) (by kernel_rfl) (by kernel_rfl) (Or.inl ⟨by rfl, fun w hSw => (by go_simp; try with_reducible rfl)⟩) (by with_reducible exact HD.out) ?_
            try simp only [Act.put, List.setIfInBounds_toArray, List.set_cons_zero, List.set_cons_succ]
            refine anyU_take2 (i := 8) (v := .agg (clC x)) (by simp only [List.getElem?_toArray, List.getElem?_cons_succ, List.getElem?_cons_zero]; exact rfl) (by kernel_rfl) 12 (by kernel_rfl) (by kernel_rfl) (fun _ _ _ h => h) (by kernel_rfl) (by kernel_rfl) (by kernel_rfl) (by kernel_rfl) (Or.inl ⟨by rfl, fun w hSw => exec_load_gp rfl rfl (HGG.out _ hSw.1) ce_under rfl (by rw [Cl.len h8]; exact ce_info)⟩) (by with_reducible exact HD.out) ?_
            try simp only [Act.put, List.setIfInBounds_toArray, List.set_cons_zero, List.set_cons_succ]
            refine anyU_one (i := 4) (by kernel_rfl) (by simp only [List.getElem?_toArray, List.getElem?_cons_succ, List.getElem?_cons_zero]; exact rfl) (fun K hK => ?_)
            try go_simp
            refine HGC.out.mono ?_
            rintro e w4 ⟨v, i', e', rfl, hr, hg, hgt, _⟩
            have HV := hide (hgt.fine HNX.out)
            have HD := hide (show (fun w' => w'.heap[gw]? = wr.heap[gw]? ∧ gw < w'.heap.size) w4 from ⟨(hg.block gw HD.out.2 (ne_some (by omega))).trans HD.out.1, Nat.lt_of_lt_of_le HD.out.2 hg.size⟩)
            have HRR := hide (show Rdr 99 w4 g g (encCs ws) (encCs (ws.take (j + 1))).length 0 from by rw [← HV.out.2.1, ← HV.out.2.2]; exact hr)
            have HBB := hide (below_own HBB.out hg CR.out.lg)
            have HVE := hide HV.out.1
            clear hr hg hgt HV
            obtain rfl := HVE.out
            have hne := HNE.out
            refine hK.out _ _ (fun _ _ => HD.out) ?_
            clear hK K
            skip
            refine anyU_take2 (i := 9) (v := .bool false) (by simp only [List.getElem?_toArray, List.getElem?_cons_succ, List.getElem?_cons_zero]; exact rfl) (by kernel_rfl) 12 (by kernel_rfl) (by kernel_rfl) (fun _ _ _ h => h) (by kernel_rfl) (by kernel_rfl) (by kernel_rfl) (by kernel_rfl) (Or.inl ⟨by rfl, fun w hSw => (by go_simp; try with_reducible rfl)⟩) (by with_reducible exact HD.out) ?_
            try simp only [Act.put, List.setIfInBounds_toArray, List.set_cons_zero, List.set_cons_succ]
            refine anyU_one (i := 10) (by kernel_rfl) (by simp only [List.getElem?_toArray, List.getElem?_cons_succ, List.getElem?_cons_zero]; exact rfl) (fun K hK => ?_)
            try go_simp
            refine hK.out _ _ (fun e _ => absurd rfl e) ?_
            clear hK K
            try simp only [Act.put]
            refine anyU_done (by kernel_rfl) ?_
            refine NoPanic.normal ?_
            try simp only [Act.put]
            have CR2 := hide (show Cr W w4 g gw ws (j + 1) from ⟨HRR.out, fun k x hk => ⟨(CR.out.c k x hk).1, range_same (CR.out.c k x hk).2 HD.out.1⟩, HBB.out, CR.out.lg⟩)
            clear hne
            go_wp2
            go_roundw
            case rel => exact ⟨j + 1, by omega, by go_num, CR2⟩
            case measure => simp [intOf]; omega
          · obtain rfl : j = nw := by omega
            have hE : rEndE (encCs ws) (encCs (ws.take j)).length 0 = 0 := by rw [← HNW.out, List.take_length]; unfold rEndE; rw [if_pos rfl, if_neg (by omega)]
            have HPE := hide (pend_any CR.out.r)
            rw [hE] at HPE
            clear hE
            go_wp2_with (first
              | (go_at_call 29; (with_reducible refine HPE.out.mono ?_); rintro e w5 ⟨rfl, _, hg⟩; have HBB := hide (below_own CR.out.old hg CR.out.lg); clear hg)
              | (go_at_call 3; (with_reducible refine (runs_any _).mono ?_); rintro e w6 ⟨rfl, hb⟩; have HBB := hide (kept_trans HBB.out hb); clear hb))
            go_ret
            exact ⟨rfl, HBB.out⟩
      · have h1i : (k : Int) < (n : Int) := by omega
        have h2i : ¬ (k : Int) < 10 := by omega
        go_upto_region 14 with (go_at_call 23; (with_reducible refine HRD.out.mono ?_); rintro x w2 ⟨g, rfl, hg, hr, hb⟩; have CR := hide (show Cr W w2 g gw ws 0 from ⟨hr, fun k x hk => ⟨Nat.lt_of_lt_of_le (HGW.out k x hk).2.1 hg, range_same (HGW.out k x hk).2.2 (hb.block gw (HGW.out k x hk).2.1)⟩, kept_trans CQ.out.old hb, Nat.le_trans CQ.out.old.size hg⟩); clear hg hr hb HRD)
        go_wp2
        go_loopw [8] (fun i wr => ∃ j : Nat, j ≤ nw ∧ i = .int .i64 j ∧ Hid (Cr W wr g gw ws j)) (fun i _ => nw - (intOf i).toNat)
        case atStart => exact ⟨0, by omega, rfl, CR⟩
        case round =>
          clear CR
          obtain ⟨j, hj, rfl, CR⟩ := hrel
          by_cases hlt : j < nw
          · have hlti : (j : Int) < (nw : Int) := by omega
            have hjc : j < cw := by omega
            have hjw : j < ws.length := by rw [HNW.out]; exact hlt
            have hx : ws[j]? = some ws[j] := List.getElem?_eq_getElem hjw
            have HNX := hide (cell_next hjw CQ.out.ok)
            have h8 := (CQ.out.ok _ (List.getElem_mem hjw)).2
            have hA := (HGW.out j _ hx).1
            have HCE := hide ((CR.out.c j _ hx).2)
            have hgwg := (CR.out.c j _ hx).1
            have HG := hide (Nat.lt_trans hgwg CR.out.r.lt)
            generalize ws[j] = x at HNX h8 HCE
            have HNE := hide (fun w => (by have h := neq_cell h8 h8 w; rw [sameCl_iff.2 rfl] at h; exact h : (binOp .neq 35 (.agg (clC x)) (.agg (clC x))).run Try.prog w = .ok (.bool false) w))
            subst hA
            clear hx hjw
            go_upto_region 17 with (fail)
            refine wp_region_noPanic ?_
            refine wp_region_U 10 (fun w' => w'.heap[gw]? = wr.heap[gw]? ∧ gw < w'.heap.size) (by kernel_rfl) ?_
            have HD := hide (show (fun w' => w'.heap[gw]? = wr.heap[gw]? ∧ gw < w'.heap.size) wr.drew from ⟨rfl, HG.out⟩)
            have HRR := hide (CR.out.r.drewN 1)
            have HBB := hide (show Below W.heap.size W (wr.drewN 1) from kept_trans CR.out.old (kept_drewN (kept_refl _) 1))
            have HGG := hide (fun (w : World) (h : w.heap[gw]? = wr.heap[gw]?) => range_same HCE.out h)
            have hdr : wr.drewN 1 = wr.drew := rfl
            rw [hdr] at HRR HBB
            clear hdr
            have HGC := hide (pgetcell_g HRR.out)
            generalize wr.drew = w3 at HD HRR HBB HGC ⊢
            refine anyU_take2 (i := 0) (v := .pointer (some ⟨g, 0, none⟩)) (by simp only [List.getElem?_toArray, List.getElem?_cons_zero]; exact rfl) (by kernel_rfl) 12 (by kernel_rfl) (by kernel_rfl) (fun _ _ _ h => h) (by kernel_rfl) (by kernel_rfl) (by kernel_rfl) (by kernel_rfl) (Or.inl ⟨by rfl, fun w hSw => (by go_simp; try with_reducible rfl)⟩) (by with_reducible exact HD.out) ?_
            try simp only [Act.put, List.setIfInBounds_toArray, List.set_cons_zero, List.set_cons_succ]
            refine anyU_take2 (i := 1) (v := .bool false) (by simp only [List.getElem?_toArray, List.getElem?_cons_succ, List.getElem?_cons_zero]; exact rfl) (by kernel_rfl) 12 (by kernel_rfl) (by kernel_rfl) (fun _ _ _ h => h) (by kernel_rfl) (by kernel_rfl) (by kernel_rfl) (by kernel_rfl) (Or.inl ⟨by rfl, fun w hSw => (by go_simp; try with_reducible rfl)⟩) (by with_reducible exact HD.out) ?_
            try simp only [Act.put, List.setIfInBounds_toArray, List.set_cons_zero, List.set_cons_succ]
            refine anyU_take2 (i := 2) (v := .bool false) (by simp only [List.getElem?_toArray, List.getElem?_cons_succ, List.getElem?_cons_zero]; exact rfl) (by kernel_rfl) 12 (by kernel_rfl) (by kernel_rfl) (fun _ _ _ h => h) (by kernel_rfl) (by kernel_rfl) (by kernel_rfl) (by kernel_rfl) (Or.inl ⟨by rfl, fun w hSw => (by go_simp; try with_reducible rfl)⟩) (by with_reducible exact HD.out) ?_
            try simp only [Act.put, List.setIfInBounds_toArray, List.set_cons_zero, List.set_cons_succ]
            refine anyU_take2 (i := 3) (v := .pointer (some ⟨g, 0, none⟩)) (by simp only [List.getElem?_toArray, List.getElem?_cons_succ, List.getElem?_cons_zero]; exact rfl) (by kernel_rfl) 12 (by kernel_rfl) (by kernel_rfl) (fun _ _ _ h => h) (by kernel_rfl) (by kernel_rfl) (by kernel_rfl) (by kernel_rfl) (Or.inl ⟨by rfl, fun w hSw => (by go_simp; try with_reducible rfl)⟩) (by with_reducible exact HD.out) ?_
            try simp only [Act.put, List.setIfInBounds_toArray, List.set_cons_zero, List.set_cons_succ]
            refine anyU_take2 (i := 5) (v := .slice (some ⟨gw, 0, none⟩) nw cw) (by simp only [List.getElem?_toArray, List.getElem?_cons_succ, List.getElem?_cons_zero]; exact rfl) (by kernel_rfl) 12 (by kernel_rfl) (by kernel_rfl) (fun _ _ _ h => h) (by kernel_rfl) (by kernel_rfl) (by kernel_rfl) (by kernel_rfl) (Or.inl ⟨by rfl, fun w hSw => (by go_simp; try with_reducible rfl)⟩) (by with_reducible exact HD.out) ?_
            try simp only [Act.put, List.setIfInBounds_toArray, List.set_cons_zero, List.set_cons_succ]
            refine anyU_take2 (i := 6) (v := .int .i64 (j : Int)) (by simp only [List.getElem?_toArray, List.getElem?_cons_succ, List.getElem?_cons_zero]; exact rfl) (by kernel_rfl) 12 (by kernel_rfl) (by kernel_rfl) (fun _ _ _ h => h) (by kernel_rfl) (by kernel_rfl) (by kernel_rfl) (by kernel_rfl) (Or.inl ⟨by rfl, fun w hSw => (by go_simp; try with_reducible rfl)⟩) (by with_reducible exact HD.out) ?_
            try simp only [Act.put, List.setIfInBounds_toArray, List.set_cons_zero, List.set_cons_succ]
            refine anyU_take2 (i := 7) (v := .pointer (some ⟨gw, j * 21, none⟩)) (by simp only [List.getElem?_toArray, List.getElem?_cons_succ, List.getElem?_cons_zero]; exact rfl) (by kernel_rfl) 12 (by kernel_rfl) (by kernel_rfl) (fun _ _ _ h => h) (by kernel_rfl) (by kernel_rfl) (by kernel_rfl) (by kernel_rfl) (Or.inl ⟨by rfl, fun w hSw => (by go_simp; try with_reducible rfl)⟩) (by with_reducible exact HD.out) ?_
            try simp only [Act.put, List.setIfInBounds_toArray, List.set_cons_zero, List.set_cons_succ]
            refine anyU_take2 (i := 8) (v := .agg (clC x)) (by simp only [List.getElem?_toArray, List.getElem?_cons_succ, List.getElem?_cons_zero]; exact rfl) (by kernel_rfl) 12 (by kernel_rfl) (by kernel_rfl) (fun _ _ _ h => h) (by kernel_rfl) (by kernel_rfl) (by kernel_rfl) (by kernel_rfl) (Or.inl ⟨by rfl, fun w hSw => exec_load_gp rfl rfl (HGG.out _ hSw.1) ce_under rfl (by rw [Cl.len h8]; exact ce_info)⟩) (by with_reducible exact HD.out) ?_
            try simp only [Act.put, List.setIfInBounds_toArray, List.set_cons_zero, List.set_cons_succ]
            refine anyU_one (i := 4) (by kernel_rfl) (by simp only [List.getElem?_toArray, List.getElem?_cons_succ, List.getElem?_cons_zero]; exact rfl) (fun K hK => ?_)
            try go_simp
            refine HGC.out.mono ?_
            rintro e w4 ⟨v, i', e', rfl, hr, hg, hgt, _⟩
            have HV := hide (hgt.fine HNX.out)
            have HD := hide (show (fun w' => w'.heap[gw]? = wr.heap[gw]? ∧ gw < w'.heap.size) w4 from ⟨(hg.block gw HD.out.2 (ne_some (by omega))).trans HD.out.1, Nat.lt_of_lt_of_le HD.out.2 hg.size⟩)
            have HRR := hide (show Rdr 99 w4 g g (encCs ws) (encCs (ws.take (j + 1))).length 0 from by rw [← HV.out.2.1, ← HV.out.2.2]; exact hr)
            have HBB := hide (below_own HBB.out hg CR.out.lg)
            have HVE := hide HV.out.1
            clear hr hg hgt HV
            obtain rfl := HVE.out
            have hne := HNE.out
            refine hK.out _ _ (fun _ _ => HD.out) ?_
            clear hK K
            skip
            refine anyU_take2 (i := 9) (v := .bool false) (by simp only [List.getElem?_toArray, List.getElem?_cons_succ, List.getElem?_cons_zero]; exact rfl) (by kernel_rfl) 12 (by kernel_rfl) (by kernel_rfl) (fun _ _ _ h => h) (by kernel_rfl) (by kernel_rfl) (by kernel_rfl) (by kernel_rfl) (Or.inl ⟨by rfl, fun w hSw => (by go_simp; try with_reducible rfl)⟩) (by with_reducible exact HD.out) ?_
            try simp only [Act.put, List.setIfInBounds_toArray, List.set_cons_zero, List.set_cons_succ]
            refine anyU_one (i := 10) (by kernel_rfl) (by simp only [List.getElem?_toArray, List.getElem?_cons_succ, List.getElem?_cons_zero]; exact rfl) (fun K hK => ?_)
            try go_simp
            refine hK.out _ _ (fun e _ => absurd rfl e) ?_
            clear hK K
            try simp only [Act.put]
            refine anyU_done (by kernel_rfl) ?_
            refine NoPanic.normal ?_
            try simp only [Act.put]
            have CR2 := hide (show Cr W w4 g gw ws (j + 1) from ⟨HRR.out, fun k x hk => ⟨(CR.out.c k x hk).1, range_same (CR.out.c k x hk).2 HD.out.1⟩, HBB.out, CR.out.lg⟩)
            clear hne
            go_wp2
            go_roundw
            case rel => exact ⟨j + 1, by omega, by go_num, CR2⟩
            case measure => simp [intOf]; omega
          · obtain rfl : j = nw := by omega
            have hE : rEndE (encCs ws) (encCs (ws.take j)).length 0 = 0 := by rw [← HNW.out, List.take_length]; unfold rEndE; rw [if_pos rfl, if_neg (by omega)]
            have HPE := hide (pend_any CR.out.r)
            rw [hE] at HPE
            clear hE
            go_wp2_with (first
              | (go_at_call 29; (with_reducible refine HPE.out.mono ?_); rintro e w5 ⟨rfl, _, hg⟩; have HBB := hide (below_own CR.out.old hg CR.out.lg); clear hg)
              | (go_at_call 3; (with_reducible refine (runs_any _).mono ?_); rintro e w6 ⟨rfl, hb⟩; have HBB := hide (kept_trans HBB.out hb); clear hb))
            go_ret
            exact ⟨rfl, HBB.out⟩
set_option maxRecDepth 100000 in
theorem lifted (os : Os) (started : os.Started) (H : Type) (enc : TypeId × Value → H) :
    ReturnsInHanded {} Try.checked os 8 .any (Rows.letterCellsSpec.pre6 enc Try.prog Try.f8 Rows.letterCellsRow.domain false) (Rows.letterCellsSpec.post enc Try.prog Try.f8 false true false false) := by
  refine returnsInHanded_of_change_sized (C := Try.checked) own started (by kernel_rfl) Try.func8
    (ChangeSpec.witness6 (enc := enc) (C := Try.checked) false ⟨#[], #[.slice none 0 0], []⟩ 8 (by kernel_rfl) (by kernel_rfl) (by kernel_rfl) (by kernel_rfl)) ?_
  intro W base args ds gs before hval0 hW _ hsz0 _
  have hval : ∀ (j : Nat) t v, Try.f8.params[j]? = some t → args[j]? = some v → Value.okWide Try.prog W .any base t v := hval0
  have hW' := hW
  obtain ⟨p, q, hA0, hV, rfl, _, _⟩ := hW
  have hA : DataW.TrodAll enc Try.prog W 0 (fun _ => true) true Try.f8.params.toList args.toList ds p := hA0
  have hsz : (DataW.weightsEach Try.prog (Try.f8.params.toList ++ Rows.letterCellsSpec.plain.varTypes Try.prog) (ds ++ gs)).all (· ≤ reachBytes) = true := hsz0
  rw [Try.params8] at hA hval hsz
  obtain ⟨v0, vs0, d0, ds0, p0, q0, hargs, rfl, rfl, h0, r0⟩ := trodAll_cons hA
  obtain ⟨rfl, rfl, rfl⟩ := trodAll_nil r0
  obtain rfl : args = #[v0] := by cases args; simp_all
  obtain ⟨rfl, rfl⟩ := trodVars_none hV
  have k0 := h0
  have lt0 : ∀ x ∈ p0, x.block < W.heap.size := by obtain ⟨m, hm⟩ := k0; exact DataW.trod_lt m _ _ _ hm
  obtain ⟨A0, n0, c0, rfl⟩ := okWide_slice Try.underlying64 (hval 0 64 v0 rfl rfl)
  obtain ⟨z0, s0⟩ := cls_in (j := 0) h0 hsz rfl rfl
  clear hA0 hval0
  refine (walk A0 n0 c0 z0 W s0).mono fun e W' ⟨he, bel⟩ => ?_
  subst he
  exact ⟨_, rfl, _, _, _, [], _, [], hW', trodAll_mk1 (shut_bool Try.underlying4 _), (trodAll_cons_mk (Below.trod laidOut (by kernel_rfl) (of_decide_eq_true (by kernel_rfl)) k0 bel lt0) trodAll_mk0), rfl, bel.frame _, fun h => by cases h⟩
theorem over : Rows.letterCellsRow.holds Try.pinned (OpenSpec.ofChange Rows.letterCellsSpec) :=
  OpenClaim.holds_of_wide 8 Try.f8 rfl rfl rfl rfl rfl rfl rfl ⟨rfl, rfl, rfl, rfl, rfl⟩ rfl rfl rfl rfl rfl (by kernel_rfl) Try.func8 (by kernel_rfl)
    (of_decide_eq_true (by kernel_rfl)) (by unfold Func.isWrapper; first | (rw [if_pos (by decide +kernel)]; kernel_rfl) | (rw [if_neg (by decide +kernel)]; exact ⟨rfl, rfl⟩))
    (fun os started H enc _ => lifted os started H enc)
theorem proved : Rows.LetterCellsSaid := over
end Go.Proofs.Ytlnpfaoeockoiaa.letterCells
