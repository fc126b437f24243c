/- The closure that puts an instance into the rising slice behind a pointer: what a call of it comes to. Conditions: the slice has room. -/
import Derived.Test.YtnbknhgfjjgcjaaPlay
import Derived.Test.YtnbknhgfjjgcjaaSp
import Derived.Test.YtnbknhgfjjgcjaaTail
import Derived.Test.YtnbknhgfjjgcjaaGrow
import Derived.Test.YtnbknhgfjjgcjaaEq
import Derived.Deep.CutBlock
import Derived.Deep.DeepCutAuto
import Derived.Deep.RegionHeld3
import Derived.BigQuiet
namespace Go.Proofs.Ytnbknhgfjjgcjaa
open Go.RowKit Go.Maps
/-- The slice behind q, an instance in the call's first block. -/
structure Aw (W w : World) (q : Nat) (A : Option Addr) (c : Nat) (l : List (Int × Int)) (r s : Int) : Prop where
  low : Below W.heap.size W w
  row : Row w q 29 #[.slice A l.length c]
  ins : Ins w A l
  i : Pr w W.heap.size r s
section
variable {W w w' : World} {q c : Nat} {A : Option Addr} {l : List (Int × Int)} {r s : Int}
theorem Aw.step (h : Aw W w q A c l r s) (hb : Below w.heap.size w w') : Aw W w' q A c l r s := ⟨kept_trans h.low hb, h.row.below hb h.row.lt, h.ins.below hb, h.i.kept hb⟩
theorem Aw.three (h : Aw W w q A c l r s) : w.cell? ⟨q, 0, none⟩ = some (.slice A l.length c) ∧ w.cell? ⟨W.heap.size, 0, none⟩ = some (.int .i64 r) ∧ w.cell? ⟨W.heap.size, 1, none⟩ = some (.int .i64 s) := ⟨h.row.cell 0, h.i.c0, h.i.c1⟩
theorem Aw.drew (h : Aw W w q A c l r s) : Aw W w.drew q A c l r s := h.step ⟨rfl, rfl, rfl, Nat.le_refl _, fun _ _ => rfl⟩
theorem Aw.drewN (h : Aw W w q A c l r s) (n : Nat) : Aw W (w.drewN n) q A c l r s := h.step ⟨rfl, rfl, rfl, Nat.le_refl _, fun _ _ => rfl⟩
end
set_option maxRecDepth 100000 in
set_option maxHeartbeats 4000000 in
theorem want_any (q d : Nat) (l : List (Int × Int)) (r s : Int) (w : World) (h : Wt w q d l) (hr : Rise l) (hn : l.length ≤ 1000) (hd : d < w.heap.size) :
    Calls Try.prog 23 #[.agg #[.int .i64 r, .int .i64 s], .pointer (some ⟨q, 0, none⟩)] w fun e w' => e = .returned (.bool (!decide ((r, s) ∈ l))) ∧ Wt w' q d (ins (r, s) l) ∧ w.grownBy w' (some q) := by
  have hql := h.lt
  have hqd := h.qd
  obtain ⟨A, c, hrow, hins, hnil, hcap, hne⟩ := h.holds
  have B0 := (Below.refl w.heap.size w).alloc (Nat.le_refl _) (.cells #[.int .i64 r, .int .i64 s] 25)
  have QQ := hide (show Aw w (w.alloc (.cells #[.int .i64 r, .int .i64 s] 25)) q A c l r s from ⟨B0, hrow.below B0 hrow.lt, hins.below B0, Pr.new _ _ _ _⟩)
  have HR0 := hide hr; have HN := hide hn; have HD := hide hd; have HQL := hide hql; have HQD := hide hqd; have HNIL := hide hnil; have HCAP := hide hcap; have HNE := hide hne
  clear B0 hrow hins hr hn hd hql hqd hnil hcap hne h
  go_enter Try.func23, Try.ntmps23
  go_upto_block 0 with fail
  generalize (World.alloc w _) = w1 at QQ ⊢
  go_cut [4] from 4 to 18 (fun s4 wx => ∃ k : Nat, s4 = .int .i64 k ∧ place (r, s) l = k ∧ Aw w wx q A c l r s)
  case first =>
    go_wp2_with fail
    go_loopw [4] (fun i wr => ∃ k : Nat, k ≤ l.length ∧ i = .int .i64 k ∧ Hid (∀ j, j < k → ∃ x, l[j]? = some x ∧ ltP x (r, s) = true) ∧ Hid (Aw w wr q A c l r s)) (fun i _ => l.length - (intOf i).toNat)
    case atStart => exact ⟨0, by omega, rfl, hide (fun j hj => absurd hj (by omega)), QQ⟩
    case round =>
      clear QQ
      obtain ⟨k, hk, rfl, HJ, QR⟩ := hrel
      have hk9 : l.length ≤ 1000 := HN.out
      go_upto_region 2 with (fail)
      by_cases hlt : k < l.length
      · obtain ⟨⟨x1, x2⟩, hx⟩ : ∃ x, l[k]? = some x := ⟨_, List.getElem?_eq_getElem hlt⟩
        obtain ⟨b1, o1, hA, _, c0, c1⟩ := QR.out.ins.at_ hx
        have hti : decide ((k : Int) < (l.length : Int)) = true := by simp; omega
        have lt0 : (0 : Int) ≤ (k : Int) := by omega
        have lt1 : (k : Int) < (l.length : Int) := by omega
        have HX := hide hx
        refine wp_region_sp (fun w' => Aw w w' q A c l r s) (by kernel_rfl) (by kernel_rfl) QR.out.drew ?_
        generalize hS : (fun w' => Aw w w' q A c l r s) = S
        have ne : Nonempty (Sp S) := by subst hS; exact ⟨⟨_, QR.out⟩⟩
        have STEP := hide (show ∀ w w', S w → Below w.heap.size w w' → S w' by subst hS; exact fun _ _ h hb => h.step hb)
        have OLD := hide (show ∀ k : Sp S, Aw w k.w q A c l r s by subst hS; exact fun k => k.ok)
        have l0 : ∀ k : Sp S, k.w.cell? ⟨q, 0, none⟩ = some (.slice A l.length c) := by subst hS; exact fun k => k.ok.row.cell 0
        have l1 : ∀ k : Sp S, k.w.cell? ⟨w.heap.size, 0, none⟩ = some (.int .i64 r) := by subst hS; exact fun k => k.ok.i.c0
        have l2 : ∀ k : Sp S, k.w.cell? ⟨w.heap.size, 1, none⟩ = some (.int .i64 s) := by subst hS; exact fun k => k.ok.i.c1
        have l3 : ∀ kk : Sp S, kk.w.cell? ⟨b1, o1 + k * 2, none⟩ = some (.int .i64 x1) := fun kk => by
          obtain ⟨b2, o2, e, _, d0, _⟩ := (OLD.out kk).ins.at_ HX.out
          rw [hA] at e; injection e with e; injection e with e1 e2 _; subst e1 e2; exact d0
        have l4 : ∀ kk : Sp S, kk.w.cell? ⟨b1, o1 + k * 2 + 1, none⟩ = some (.int .i64 x2) := fun kk => by
          obtain ⟨b2, o2, e, _, _, d1⟩ := (OLD.out kk).ins.at_ HX.out
          rw [hA] at e; injection e with e; injection e with e1 e2 _; subst e1 e2; exact d1
        rw [hA] at l0
        have CL := hide (fun w => refless_any x1 x2 r s w)
        clear hS hx c0 c1
        obtain ⟨t, ht⟩ : ∃ t, ltP (x1, x2) (r, s) = t := ⟨_, rfl⟩
        rw [ht] at CL
        have HT := hide ht
        clear ht
        repeat (quiet_step ((go_at_call 20; with_reducible exact sp_call STEP.out _ (CL.out _))))
        refine wpQuiet_nil ?_
        intro kk
        have OK := hide (OLD.out kk)
        generalize kk.w = wk at OK ⊢
        clear l0 l1 l2 l3 l4 ne OLD STEP CL QR
        cases t
        · go_wp2
          go_meet
          refine ⟨k, rfl, place_of HJ.out fun x hx => ?_, OK.out⟩
          rw [HX.out] at hx
          cases hx
          exact HT.out
        · go_wp2
          go_roundw
          case rel =>
            refine ⟨k + 1, by omega, by go_num, hide fun j hj => ?_, OK⟩
            rcases Nat.lt_or_ge j k with h1 | h1
            · exact HJ.out j h1
            · obtain rfl : j = k := by omega
              exact ⟨_, HX.out, HT.out⟩
          case measure => simp [intOf]; omega
      · have hti : decide ((k : Int) < (l.length : Int)) = false := by simp; omega
        refine wp_region_sp (fun w' => Aw w w' q A c l r s) (by kernel_rfl) (by kernel_rfl) QR.out.drew ?_
        generalize hS : (fun w' => Aw w w' q A c l r s) = S
        have ne : Nonempty (Sp S) := by subst hS; exact ⟨⟨_, QR.out⟩⟩
        have OLD := hide (show ∀ k : Sp S, Aw w k.w q A c l r s by subst hS; exact fun k => k.ok)
        have l0 : ∀ k : Sp S, k.w.cell? ⟨q, 0, none⟩ = some (.slice A l.length c) := by subst hS; exact fun k => k.ok.row.cell 0
        clear hS
        repeat (quiet_step (fail))
        refine wpQuiet_nil ?_
        intro kk
        have OK := hide (OLD.out kk)
        generalize kk.w = wk at OK ⊢
        clear l0 ne OLD QR
        go_wp2
        go_meet
        refine ⟨k, rfl, place_of HJ.out fun x hx => ?_, OK.out⟩
        rw [List.getElem?_eq_none (by omega)] at hx
        cases hx
  case rest =>
    obtain ⟨k, rfl, hk, qq⟩ := hcut
    clear QQ
    have QQ := hide qq
    have HK := hide hk
    have hkl : k ≤ l.length := by have := place_le (r, s) l; omega
    clear qq hk
    go_upto_region 4 with (fail)
    go_cut [30] (fun s30 wx => s30 = .bool (decide ((r, s) ∈ l)) ∧ Aw w wx q A c l r s)
    case first =>
      have lb := QQ.out.row.cell 0
      have li0 := QQ.out.i.c0
      have li1 := QQ.out.i.c1
      have heq := fun a b w => eql_inst a b r s w
      by_cases hlt : k < l.length
      · obtain ⟨⟨x1, x2⟩, hx⟩ : ∃ x, l[k]? = some x := ⟨_, List.getElem?_eq_getElem hlt⟩
        obtain ⟨b1, o1, hA, _, c0, c1⟩ := QQ.out.ins.at_ hx
        have hti : decide ((k : Int) < (l.length : Int)) = true := by simp; omega
        have lt0 : (0 : Int) ≤ (k : Int) := by omega
        have lt1 : (k : Int) < (l.length : Int) := by omega
        have hm : sameB x1 x2 r s = decide ((r, s) ∈ l) := by
          rw [same_iff]
          have := mem_place (i := (r, s)) HR0.out
          rw [HK.out, hx] at this
          simp only [Option.some.injEq] at this
          rw [decide_eq_decide]; exact this
        have HM := hide hm
        clear hx hm
        rw [hA] at lb
        go_quiet (fail)
        go_wp2
        go_meet
        exact ⟨by rw [HM.out], QQ.out.drewN _⟩
      · have hti : decide ((k : Int) < (l.length : Int)) = false := by simp; omega
        have hm : decide ((r, s) ∈ l) = false := by
          rw [decide_eq_false_iff_not, ← mem_place HR0.out, HK.out, List.getElem?_eq_none (by omega)]
          simp
        have HM := hide hm
        clear hm
        go_quiet (fail)
        go_wp2
        go_meet
        exact ⟨by rw [HM.out], QQ.out.drewN _⟩
    case rest =>
      obtain ⟨rfl, qq⟩ := hcut
      clear QQ
      have QQ := hide qq
      clear qq
      by_cases hm : (r, s) ∈ l
      · have hmb : decide ((r, s) ∈ l) = true := by simp [hm]
        have HM := hide hm
        clear hm
        go_wp2
        go_ret
        have hp := (mem_place HR0.out).2 HM.out
        refine ⟨ret_bool (by simp [HM.out]), ?_, grown_any (grown_below QQ.out.low)⟩
        rw [ins_there hp]
        exact ⟨⟨A, c, QQ.out.row, QQ.out.ins, HNIL.out, HCAP.out, HNE.out⟩, HQD.out⟩
      · have hmb : decide ((r, s) ∈ l) = false := by simp [hm]
        have HM := hide hm
        clear hm
        go_upto_region 6 with (fail)
        have ql := HQL.out
        have nn : l.length ≤ 1000 := HN.out
        have kw : wrap64 ((k : Int) + 1) = (k : Int) + 1 := by unfold wrap64; omega
        have lt0 : (0 : Int) ≤ (k : Int) := by omega
        have lt1 : (k : Int) ≤ (c : Int) := by have := HCAP.out; omega
        have lt2 : (k : Int) ≤ (l.length : Int) := by omega
        have QD := hide QQ.out.drew
        clear QQ
        have QQ := QD
        clear QD
        -- REGION 6
        refine wp_region_noPanic ?_
        refine wp_region_T 12 (fun w' => w'.cell? ⟨q, 0, none⟩ = some (.slice A l.length c) ∧ w'.cell? ⟨w.heap.size, 0, none⟩ = some (.int .i64 r) ∧ w'.cell? ⟨w.heap.size, 1, none⟩ = some (.int .i64 s)) (by kernel_rfl) ?_
        generalize World.drew wc = wd at QQ ⊢
        refine anyT_take (i := 1) (v := ?ov1) (by simp only [List.getElem?_toArray, List.getElem?_cons_succ, List.getElem?_cons_zero]; exact rfl) (by kernel_rfl) (by kernel_rfl) (fun _ _ _ h => h) (by kernel_rfl) (by kernel_rfl) (Or.inl ⟨by rfl, ?oy1⟩) (by with_reducible exact QQ.out.three) ?or1
        case oy1 => (intro w hSw; (try dsimp only at hSw); go_simp; try with_reducible rfl)
        try simp only [Act.put, List.setIfInBounds_toArray, List.set_cons_zero, List.set_cons_succ]
        refine anyT_take (i := 2) (v := ?ov2) (by simp only [List.getElem?_toArray, List.getElem?_cons_succ, List.getElem?_cons_zero]; exact rfl) (by kernel_rfl) (by kernel_rfl) (fun _ _ _ h => h) (by kernel_rfl) (by kernel_rfl) (Or.inl ⟨by rfl, ?oy2⟩) (by with_reducible exact QQ.out.three) ?or2
        case oy2 => (intro w hSw; (try dsimp only at hSw); go_simp; try with_reducible rfl)
        try simp only [Act.put, List.setIfInBounds_toArray, List.set_cons_zero, List.set_cons_succ]
        refine anyT_take (i := 3) (v := ?ov3) (by simp only [List.getElem?_toArray, List.getElem?_cons_succ, List.getElem?_cons_zero]; exact rfl) (by kernel_rfl) (by kernel_rfl) (fun _ _ _ h => h) (by kernel_rfl) (by kernel_rfl) (Or.inl ⟨by rfl, ?oy3⟩) (by with_reducible exact QQ.out.three) ?or3
        case oy3 => (intro w hSw; (try dsimp only at hSw); go_simp; try with_reducible rfl)
        try simp only [Act.put, List.setIfInBounds_toArray, List.set_cons_zero, List.set_cons_succ]
        refine anyT_take (i := 5) (v := ?ov5) (by simp only [List.getElem?_toArray, List.getElem?_cons_succ, List.getElem?_cons_zero]; exact rfl) (by kernel_rfl) (by kernel_rfl) (fun _ _ _ h => h) (by kernel_rfl) (by kernel_rfl) (Or.inl ⟨by rfl, ?oy5⟩) (by with_reducible exact QQ.out.three) ?or5
        case oy5 => (intro w hSw; (try dsimp only at hSw); go_simp; try with_reducible rfl)
        try simp only [Act.put, List.setIfInBounds_toArray, List.set_cons_zero, List.set_cons_succ]
        refine anyT_take (i := 8) (v := ?ov8) (by simp only [List.getElem?_toArray, List.getElem?_cons_succ, List.getElem?_cons_zero]; exact rfl) (by kernel_rfl) (by kernel_rfl) (fun _ _ _ h => h) (by kernel_rfl) (by kernel_rfl) (Or.inl ⟨by rfl, ?oy8⟩) (by with_reducible exact QQ.out.three) ?or8
        case oy8 => (intro w hSw; (try dsimp only at hSw); go_simp; try with_reducible rfl)
        try simp only [Act.put, List.setIfInBounds_toArray, List.set_cons_zero, List.set_cons_succ]
        refine anyT_take (i := 9) (v := ?ov9) (by simp only [List.getElem?_toArray, List.getElem?_cons_succ, List.getElem?_cons_zero]; exact rfl) (by kernel_rfl) (by kernel_rfl) (fun _ _ _ h => h) (by kernel_rfl) (by kernel_rfl) (Or.inl ⟨by rfl, ?oy9⟩) (by with_reducible exact QQ.out.three) ?or9
        case oy9 => (intro w hSw; (try dsimp only at hSw); go_simp; try with_reducible rfl)
        try simp only [Act.put, List.setIfInBounds_toArray, List.set_cons_zero, List.set_cons_succ]
        refine anyT_take (i := 10) (v := ?ov10) (by simp only [List.getElem?_toArray, List.getElem?_cons_succ, List.getElem?_cons_zero]; exact rfl) (by kernel_rfl) (by kernel_rfl) (fun _ _ _ h => h) (by kernel_rfl) (by kernel_rfl) (Or.inl ⟨by rfl, ?oy10⟩) (by with_reducible exact QQ.out.three) ?or10
        case oy10 => (intro w hSw; (try dsimp only at hSw); go_simp; try with_reducible rfl)
        try simp only [Act.put, List.setIfInBounds_toArray, List.set_cons_zero, List.set_cons_succ]
        have HB := hide (Below.refl wd.heap.size wd)
        have ys : (([] : List (Int × Int)) ++ l.take k) ++ [(r, s)] ++ l.drop k = ins (r, s) l := by
          have hne : l[place (r, s) l]? ≠ some (r, s) := fun e => HM.out ((mem_place HR0.out).1 e)
          rw [ins_new hne, HK.out]; simp
        have YS := hide ys
        clear ys
        refine anyT_two (i := 0) (j := 6) (by kernel_rfl) (by simp only [List.getElem?_toArray, List.getElem?_cons_zero]; exact rfl) (by simp only [List.getElem?_toArray, List.getElem?_cons_succ, List.getElem?_cons_zero]; exact rfl) (fun K hK => ?_) (fun K hK => ?_)
        · skip
          go_simp
          have HBN := hide (HB.out.alloc HB.out.size (.cells #[] 25))
          have HGN := hide (Gw.start HB.out)
          refine hK.out _ _ (fun _ => (QQ.out.step HBN.out).three) ?_
          clear hK K HB
          try simp only [Act.put, List.setIfInBounds_toArray, List.set_cons_zero, List.set_cons_succ]
          generalize World.alloc wd _ = wa at HBN HGN ⊢
          have HB := HBN
          clear HBN
          have HG := HGN
          clear HGN
          refine anyT_two (i := 4) (j := 6) (by kernel_rfl) (by simp only [List.getElem?_toArray, List.getElem?_cons_succ, List.getElem?_cons_zero]; exact rfl) (by simp only [List.getElem?_toArray, List.getElem?_cons_succ, List.getElem?_cons_zero]; exact rfl) (fun K hK => ?_) (fun K hK => ?_)
          · skip
            refine step_append_gw (by rfl) (.tmp 31) (.tmp 34) (by rfl) (by rfl) HG.out _ k _ (l.take k) (by rfl) (by simp; omega) HNIL.out ((QQ.out.step HB.out).ins.take k) k (by omega) (by omega) (fun g4 cap4 wb hG hg hcap => ?_)
            have HBN := hide hG.low
            have HGN := hide hG
            refine hK.out _ _ (fun _ => (QQ.out.step HBN.out).three) ?_
            clear hK K HB HG hG hg hcap
            try simp only [Act.put, List.setIfInBounds_toArray, List.set_cons_zero, List.set_cons_succ]
            have HB := HBN
            clear HBN
            have HG := HGN
            clear HGN
            refine anyT_one (i := 6) (by kernel_rfl) (by simp only [List.getElem?_toArray, List.getElem?_cons_succ, List.getElem?_cons_zero]; exact rfl) (fun K hK => ?_)
            go_simp
            have HBN := hide (HB.out.alloc HB.out.size (.cells #[.int .i64 r, .int .i64 s] 25))
            have HRN := hide (Row.new wb 25 #[.int .i64 r, .int .i64 s])
            have HGN := hide (HG.out.alloc (.cells #[.int .i64 r, .int .i64 s] 25))
            have NE := hide (Nat.ne_of_gt HG.out.lt.2)
            refine hK.out _ _ (fun _ => (QQ.out.step HBN.out).three) ?_
            clear hK K HB HG
            try simp only [Act.put, List.setIfInBounds_toArray, List.set_cons_zero, List.set_cons_succ]
            generalize World.alloc wb _ = wc at HBN HGN HRN ⊢
            have HB := HBN
            clear HBN
            have HG := HGN
            clear HGN
            have HR := HRN
            clear HRN
            refine anyT_one (i := 7) (by kernel_rfl) (by simp only [List.getElem?_toArray, List.getElem?_cons_succ, List.getElem?_cons_zero]; exact rfl) (fun K hK => ?_)
            refine step_append_gw (by rfl) (.tmp 35) (.tmp 37) (by rfl) (by rfl) HG.out _ 1 _ [(r, s)] (by rfl) rfl (fun e => by cases e) (ins_row HR.out rfl) (k + 1) rfl (by omega) (fun g7 cap7 wd hG hg hcap => ?_)
            have HBN := hide hG.low
            have HGN := hide hG
            refine hK.out _ _ (fun _ => (QQ.out.step HBN.out).three) ?_
            clear hK K HB HG hG hg hcap HR
            try simp only [Act.put, List.setIfInBounds_toArray, List.set_cons_zero, List.set_cons_succ]
            have HB := HBN
            clear HBN
            have HG := HGN
            clear HGN
            refine anyT_one (i := 11) (by kernel_rfl) (by simp only [List.getElem?_toArray, List.getElem?_cons_succ, List.getElem?_cons_zero]; exact rfl) (fun K hK => ?_)
            refine step_append_gw (by rfl) (.tmp 38) (.tmp 41) (by rfl) (by rfl) HG.out (partP A c k) (l.length - k) _ (l.drop k) (by rfl) (by simp) (partP_none HNIL.out) ((QQ.out.step HB.out).ins.rest HCAP.out k) (l.length + 1) (by omega) (by omega) (fun g11 cap11 we hG hg hcap => ?_)
            have HBN := hide hG.low
            have HGN := hide hG
            have HC := hide hcap
            refine hK.out _ _ (fun _ => (QQ.out.step HBN.out).three) ?_
            clear hK K HB HG hG hg hcap
            try simp only [Act.put, List.setIfInBounds_toArray, List.set_cons_zero, List.set_cons_succ]
            have HB := HBN
            clear HBN
            have HG := HGN
            clear HGN
            refine anyT_one (i := 12) (by kernel_rfl) (by simp only [List.getElem?_toArray, List.getElem?_cons_succ, List.getElem?_cons_zero]; exact rfl) (fun K hK => ?_)
            have f0 := (QQ.out.step HB.out).row.free 0
            have f1 := (QQ.out.step HB.out).row.cell 0
            have fin := hide (HG.out.store q d (QQ.out.row) rfl HQD.out (Nat.lt_of_lt_of_le HD.out QQ.out.low.size) YS.out HC.out)
            have LW := hide QQ.out.low
            go_simp
            refine hK.out _ _ (fun e => absurd rfl e) ?_
            clear hK K f0 f1
            refine anyT_done (by kernel_rfl) ?_
            refine NoPanic.normal ?_
            go_wp2_with fail
            all_goals go_ret
            all_goals exact ⟨rfl, fin.out.1, grown_trans (grown_any (grown_below LW.out)) fin.out.2⟩
          · skip
            go_simp
            have HBN := hide (HB.out.alloc HB.out.size (.cells #[.int .i64 r, .int .i64 s] 25))
            have HRN := hide (Row.new wa 25 #[.int .i64 r, .int .i64 s])
            have HGN := hide (HG.out.alloc (.cells #[.int .i64 r, .int .i64 s] 25))
            have NE := hide (Nat.ne_of_gt HG.out.lt.2)
            refine hK.out _ _ (fun _ => (QQ.out.step HBN.out).three) ?_
            clear hK K HB HG
            try simp only [Act.put, List.setIfInBounds_toArray, List.set_cons_zero, List.set_cons_succ]
            generalize World.alloc wa _ = wb at HBN HGN HRN ⊢
            have HB := HBN
            clear HBN
            have HG := HGN
            clear HGN
            have HR := HRN
            clear HRN
            refine anyT_one (i := 4) (by kernel_rfl) (by simp only [List.getElem?_toArray, List.getElem?_cons_succ, List.getElem?_cons_zero]; exact rfl) (fun K hK => ?_)
            refine step_append_gw (by rfl) (.tmp 31) (.tmp 34) (by rfl) (by rfl) HG.out _ k _ (l.take k) (by rfl) (by simp; omega) HNIL.out ((QQ.out.step HB.out).ins.take k) k (by omega) (by omega) (fun g4 cap4 wc hG hg hcap => ?_)
            have HBN := hide hG.low
            have HGN := hide hG
            have HRN := hide (HR.out.grown hg (fun e => NE.out (Option.some.inj e)))
            refine hK.out _ _ (fun _ => (QQ.out.step HBN.out).three) ?_
            clear hK K HB HG hG hg hcap HR NE
            try simp only [Act.put, List.setIfInBounds_toArray, List.set_cons_zero, List.set_cons_succ]
            have HB := HBN
            clear HBN
            have HG := HGN
            clear HGN
            have HR := HRN
            clear HRN
            refine anyT_one (i := 7) (by kernel_rfl) (by simp only [List.getElem?_toArray, List.getElem?_cons_succ, List.getElem?_cons_zero]; exact rfl) (fun K hK => ?_)
            refine step_append_gw (by rfl) (.tmp 35) (.tmp 37) (by rfl) (by rfl) HG.out _ 1 _ [(r, s)] (by rfl) rfl (fun e => by cases e) (ins_row HR.out rfl) (k + 1) rfl (by omega) (fun g7 cap7 wd hG hg hcap => ?_)
            have HBN := hide hG.low
            have HGN := hide hG
            refine hK.out _ _ (fun _ => (QQ.out.step HBN.out).three) ?_
            clear hK K HB HG hG hg hcap HR
            try simp only [Act.put, List.setIfInBounds_toArray, List.set_cons_zero, List.set_cons_succ]
            have HB := HBN
            clear HBN
            have HG := HGN
            clear HGN
            refine anyT_one (i := 11) (by kernel_rfl) (by simp only [List.getElem?_toArray, List.getElem?_cons_succ, List.getElem?_cons_zero]; exact rfl) (fun K hK => ?_)
            refine step_append_gw (by rfl) (.tmp 38) (.tmp 41) (by rfl) (by rfl) HG.out (partP A c k) (l.length - k) _ (l.drop k) (by rfl) (by simp) (partP_none HNIL.out) ((QQ.out.step HB.out).ins.rest HCAP.out k) (l.length + 1) (by omega) (by omega) (fun g11 cap11 we hG hg hcap => ?_)
            have HBN := hide hG.low
            have HGN := hide hG
            have HC := hide hcap
            refine hK.out _ _ (fun _ => (QQ.out.step HBN.out).three) ?_
            clear hK K HB HG hG hg hcap
            try simp only [Act.put, List.setIfInBounds_toArray, List.set_cons_zero, List.set_cons_succ]
            have HB := HBN
            clear HBN
            have HG := HGN
            clear HGN
            refine anyT_one (i := 12) (by kernel_rfl) (by simp only [List.getElem?_toArray, List.getElem?_cons_succ, List.getElem?_cons_zero]; exact rfl) (fun K hK => ?_)
            have f0 := (QQ.out.step HB.out).row.free 0
            have f1 := (QQ.out.step HB.out).row.cell 0
            have fin := hide (HG.out.store q d (QQ.out.row) rfl HQD.out (Nat.lt_of_lt_of_le HD.out QQ.out.low.size) YS.out HC.out)
            have LW := hide QQ.out.low
            go_simp
            refine hK.out _ _ (fun e => absurd rfl e) ?_
            clear hK K f0 f1
            refine anyT_done (by kernel_rfl) ?_
            refine NoPanic.normal ?_
            go_wp2_with fail
            all_goals go_ret
            all_goals exact ⟨rfl, fin.out.1, grown_trans (grown_any (grown_below LW.out)) fin.out.2⟩
        · skip
          go_simp
          have HBN := hide (HB.out.alloc HB.out.size (.cells #[.int .i64 r, .int .i64 s] 25))
          have HRN := hide (Row.new wd 25 #[.int .i64 r, .int .i64 s])
          refine hK.out _ _ (fun _ => (QQ.out.step HBN.out).three) ?_
          clear hK K HB
          try simp only [Act.put, List.setIfInBounds_toArray, List.set_cons_zero, List.set_cons_succ]
          generalize World.alloc wd _ = wa at HBN HRN ⊢
          have HB := HBN
          clear HBN
          have HR := HRN
          clear HRN
          refine anyT_one (i := 0) (by kernel_rfl) (by simp only [List.getElem?_toArray, List.getElem?_cons_zero]; exact rfl) (fun K hK => ?_)
          go_simp
          have HBN := hide (HB.out.alloc HB.out.size (.cells #[] 25))
          have HGN := hide (Gw.start HB.out)
          have HRN := hide (HR.out.alloc (.cells #[] 25))
          have NE := hide (Nat.ne_of_lt HR.out.lt)
          refine hK.out _ _ (fun _ => (QQ.out.step HBN.out).three) ?_
          clear hK K HB HR
          try simp only [Act.put, List.setIfInBounds_toArray, List.set_cons_zero, List.set_cons_succ]
          generalize World.alloc wa _ = wb at HBN HGN HRN ⊢
          have HB := HBN
          clear HBN
          have HG := HGN
          clear HGN
          have HR := HRN
          clear HRN
          refine anyT_one (i := 4) (by kernel_rfl) (by simp only [List.getElem?_toArray, List.getElem?_cons_succ, List.getElem?_cons_zero]; exact rfl) (fun K hK => ?_)
          refine step_append_gw (by rfl) (.tmp 31) (.tmp 34) (by rfl) (by rfl) HG.out _ k _ (l.take k) (by rfl) (by simp; omega) HNIL.out ((QQ.out.step HB.out).ins.take k) k (by omega) (by omega) (fun g4 cap4 wc hG hg hcap => ?_)
          have HBN := hide hG.low
          have HGN := hide hG
          have HRN := hide (HR.out.grown hg (fun e => NE.out (Option.some.inj e)))
          refine hK.out _ _ (fun _ => (QQ.out.step HBN.out).three) ?_
          clear hK K HB HG hG hg hcap HR NE
          try simp only [Act.put, List.setIfInBounds_toArray, List.set_cons_zero, List.set_cons_succ]
          have HB := HBN
          clear HBN
          have HG := HGN
          clear HGN
          have HR := HRN
          clear HRN
          refine anyT_one (i := 7) (by kernel_rfl) (by simp only [List.getElem?_toArray, List.getElem?_cons_succ, List.getElem?_cons_zero]; exact rfl) (fun K hK => ?_)
          refine step_append_gw (by rfl) (.tmp 35) (.tmp 37) (by rfl) (by rfl) HG.out _ 1 _ [(r, s)] (by rfl) rfl (fun e => by cases e) (ins_row HR.out rfl) (k + 1) rfl (by omega) (fun g7 cap7 wd hG hg hcap => ?_)
          have HBN := hide hG.low
          have HGN := hide hG
          refine hK.out _ _ (fun _ => (QQ.out.step HBN.out).three) ?_
          clear hK K HB HG hG hg hcap HR
          try simp only [Act.put, List.setIfInBounds_toArray, List.set_cons_zero, List.set_cons_succ]
          have HB := HBN
          clear HBN
          have HG := HGN
          clear HGN
          refine anyT_one (i := 11) (by kernel_rfl) (by simp only [List.getElem?_toArray, List.getElem?_cons_succ, List.getElem?_cons_zero]; exact rfl) (fun K hK => ?_)
          refine step_append_gw (by rfl) (.tmp 38) (.tmp 41) (by rfl) (by rfl) HG.out (partP A c k) (l.length - k) _ (l.drop k) (by rfl) (by simp) (partP_none HNIL.out) ((QQ.out.step HB.out).ins.rest HCAP.out k) (l.length + 1) (by omega) (by omega) (fun g11 cap11 we hG hg hcap => ?_)
          have HBN := hide hG.low
          have HGN := hide hG
          have HC := hide hcap
          refine hK.out _ _ (fun _ => (QQ.out.step HBN.out).three) ?_
          clear hK K HB HG hG hg hcap
          try simp only [Act.put, List.setIfInBounds_toArray, List.set_cons_zero, List.set_cons_succ]
          have HB := HBN
          clear HBN
          have HG := HGN
          clear HGN
          refine anyT_one (i := 12) (by kernel_rfl) (by simp only [List.getElem?_toArray, List.getElem?_cons_succ, List.getElem?_cons_zero]; exact rfl) (fun K hK => ?_)
          have f0 := (QQ.out.step HB.out).row.free 0
          have f1 := (QQ.out.step HB.out).row.cell 0
          have fin := hide (HG.out.store q d (QQ.out.row) rfl HQD.out (Nat.lt_of_lt_of_le HD.out QQ.out.low.size) YS.out HC.out)
          have LW := hide QQ.out.low
          go_simp
          refine hK.out _ _ (fun e => absurd rfl e) ?_
          clear hK K f0 f1
          refine anyT_done (by kernel_rfl) ?_
          refine NoPanic.normal ?_
          go_wp2_with fail
          all_goals go_ret
          all_goals exact ⟨rfl, fin.out.1, grown_trans (grown_any (grown_below LW.out)) fin.out.2⟩
end Go.Proofs.Ytnbknhgfjjgcjaa
