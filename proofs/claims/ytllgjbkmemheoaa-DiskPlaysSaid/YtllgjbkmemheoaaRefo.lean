/- A file goes out of the document's disk; its power. Conditions: the slice has room. -/
import Derived.Test.YtllgjbkmemheoaaRefn
import Derived.Deep.DeepCutAuto
import Derived.Deep.RegionHeld3
import Derived.BigQuiet
namespace Go.Proofs.Ytllgjbkmemheoaa
open Go.RowKit Go.Maps
theorem own_drew {S S' : Nat → Prop} {w w' : World} (h : Own S w.drew S' w') : Own S w S' w' := ⟨⟨h.1.1, h.1.2, h.1.3, h.1.4, h.1.5⟩, h.2⟩
theorem own_drew2 {S S' T : Nat → Prop} {w w' : World} (h : Own S w.drew S' w') (k : Turn T w.drew w') : Own S w S' w' ∧ Turn T w w' := ⟨own_drew h, ⟨k.1, k.2, k.3, k.4, k.5⟩⟩
theorem below_drew (w : World) : Below w.heap.size w w.drew := ⟨rfl, rfl, rfl, Nat.le_refl _, fun _ _ => rfl⟩
theorem own3_cap {w : World} {e : TypeId} {A : Option Addr} {n c : Nat} {R : List (Fl × Ps)} (h : w.ownsRow 0 e 3 (.slice A n c) n (cells3 R)) : n ≤ c ∧ (A = none → c = 0) := by
  rcases h.2 with ⟨hv, h0⟩ | ⟨g, cap, cur, hv, _, _, hc, _⟩
  · injection hv with h1 _ h3; exact ⟨by omega, fun _ => h3⟩
  · injection hv with h1 _ h3; exact ⟨by omega, fun e => by rw [e] at h1; cases h1⟩
section
variable {S : Nat → Prop} {w : World} {g : Nat} {R : List (Fl × Ps)} {A : Option Addr} {c : Nat} {d : DS}
theorem Rp.c0 (h : Rp S w g R A c d) : w.cell? ⟨g, 0, none⟩ = some (.slice A d.l.length c) := h.row.cell 0
set_option maxRecDepth 100000 in
set_option maxHeartbeats 4000000 in
theorem out_any (h : Rp S w g R A c d) (k : Nat) (hk : k < d.l.length) (hln : d.l.length ≤ 1000000) :
    Calls Try.prog 50 #[.pointer (some ⟨g, 0, none⟩), .int .i64 k] w fun e w' => e = .returned (.tuple #[]) ∧ ∃ S' R' A' c', Rp S' w' g R' A' c' { d with l := d.l.take k ++ d.l.drop (k + 1) } ∧ Own S w S' w' ∧ Turn (fun k => k = g) w w' := by
  obtain ⟨hcap, hnil⟩ := own3_cap h.own
  have hlen := (lies3_own h.own).2
  have HCAP := hide hcap; have HNIL := hide hnil; have HLEN := hide hlen
  obtain ⟨j, hj⟩ : ∃ j, j = k + 1 := ⟨_, rfl⟩
  have hk2 : j ≤ d.l.length := by omega
  have hw1 : IntKind.i64.wrap ((k : Int) + 1) = (j : Int) := by
    rw [IntKind.wrap_i64]; omega
  rw [← hj]
  have HJ := hide hj
  clear hj
  have hc1 : k ≤ c := by omega
  have HO := hide (fun S' w' => own_drew2 (S := S) (S' := S') (T := fun k => k = g) (w := w) (w' := w'))
  have QQ := hide (h.below (below_drew w))
  clear h hnil hlen
  go_enter Try.func50, Try.ntmps50
  go_upto_region 0 with fail
  refine wp_region_noPanic ?_
  refine wp_region_T 19 (fun w' => w'.cell? ⟨g, 0, none⟩ = some (.slice A d.l.length c)) (by kernel_rfl) ?_
  generalize World.drew _ = wd at QQ HO ⊢
  refine anyT_take (i := 0) (v := ?ov0) (by simp only [List.getElem?_toArray, List.getElem?_cons_zero]; exact rfl) (by kernel_rfl) (by kernel_rfl) (fun _ _ _ h => h) (by kernel_rfl) (by kernel_rfl) (Or.inl ⟨by rfl, ?oy0⟩) (by with_reducible exact (QQ.out.c0)) ?or0
  case oy0 => (intro w hSw; (try dsimp only at hSw); go_simp; try with_reducible rfl)
  try simp only [Act.put, List.setIfInBounds_toArray, List.set_cons_zero, List.set_cons_succ]
  refine anyT_take (i := 2) (v := ?ov2) (by simp only [List.getElem?_toArray, List.getElem?_cons_succ, List.getElem?_cons_zero]; exact rfl) (by kernel_rfl) (by kernel_rfl) (fun _ _ _ h => h) (by kernel_rfl) (by kernel_rfl) (Or.inl ⟨by rfl, ?oy2⟩) (by with_reducible exact (QQ.out.c0)) ?or2
  case oy2 => (intro w hSw; (try dsimp only at hSw); go_simp; try with_reducible rfl)
  try simp only [Act.put, List.setIfInBounds_toArray, List.set_cons_zero, List.set_cons_succ]
  refine anyT_take (i := 3) (v := ?ov3) (by simp only [List.getElem?_toArray, List.getElem?_cons_succ, List.getElem?_cons_zero]; exact rfl) (by kernel_rfl) (by kernel_rfl) (fun _ _ _ h => h) (by kernel_rfl) (by kernel_rfl) (Or.inl ⟨by rfl, ?oy3⟩) (by with_reducible exact (QQ.out.c0)) ?or3
  case oy3 => (intro w hSw; (try dsimp only at hSw); go_simp; try with_reducible rfl)
  try simp only [Act.put, List.setIfInBounds_toArray, List.set_cons_zero, List.set_cons_succ]
  refine anyT_take (i := 4) (v := ?ov4) (by simp only [List.getElem?_toArray, List.getElem?_cons_succ, List.getElem?_cons_zero]; exact rfl) (by kernel_rfl) (by kernel_rfl) (fun _ _ _ h => h) (by kernel_rfl) (by kernel_rfl) (Or.inl ⟨by rfl, ?oy4⟩) (by with_reducible exact (QQ.out.c0)) ?or4
  case oy4 => (intro w hSw; (try dsimp only at hSw); go_simp; try with_reducible rfl)
  try simp only [Act.put, List.setIfInBounds_toArray, List.set_cons_zero, List.set_cons_succ]
  refine anyT_take (i := 5) (v := ?ov5) (by simp only [List.getElem?_toArray, List.getElem?_cons_succ, List.getElem?_cons_zero]; exact rfl) (by kernel_rfl) (by kernel_rfl) (fun _ _ _ h => h) (by kernel_rfl) (by kernel_rfl) (Or.inl ⟨by rfl, ?oy5⟩) (by with_reducible exact (QQ.out.c0)) ?or5
  case oy5 => (intro w hSw; (try dsimp only at hSw); go_simp; try with_reducible rfl)
  try simp only [Act.put, List.setIfInBounds_toArray, List.set_cons_zero, List.set_cons_succ]
  refine anyT_take (i := 6) (v := ?ov6) (by simp only [List.getElem?_toArray, List.getElem?_cons_succ, List.getElem?_cons_zero]; exact rfl) (by kernel_rfl) (by kernel_rfl) (fun _ _ _ h => h) (by kernel_rfl) (by kernel_rfl) (Or.inl ⟨by rfl, ?oy6⟩) (by with_reducible exact (QQ.out.c0)) ?or6
  case oy6 => (intro w hSw; (try dsimp only at hSw); go_simp; try with_reducible rfl)
  try simp only [Act.put, List.setIfInBounds_toArray, List.set_cons_zero, List.set_cons_succ]
  refine anyT_take (i := 7) (v := ?ov7) (by simp only [List.getElem?_toArray, List.getElem?_cons_succ, List.getElem?_cons_zero]; exact rfl) (by kernel_rfl) (by kernel_rfl) (fun _ _ _ h => h) (by kernel_rfl) (by kernel_rfl) (Or.inl ⟨by rfl, ?oy7⟩) (by with_reducible exact (QQ.out.c0)) ?or7
  case oy7 => (intro w hSw; (try dsimp only at hSw); go_simp; try with_reducible rfl)
  try simp only [Act.put, List.setIfInBounds_toArray, List.set_cons_zero, List.set_cons_succ]
  refine anyT_take (i := 9) (v := ?ov9) (by simp only [List.getElem?_toArray, List.getElem?_cons_succ, List.getElem?_cons_zero]; exact rfl) (by kernel_rfl) (by kernel_rfl) (fun _ _ _ h => h) (by kernel_rfl) (by kernel_rfl) (Or.inl ⟨by rfl, ?oy9⟩) (by with_reducible exact (QQ.out.c0)) ?or9
  case oy9 => (intro w hSw; (try dsimp only at hSw); go_simp; try with_reducible rfl)
  try simp only [Act.put, List.setIfInBounds_toArray, List.set_cons_zero, List.set_cons_succ]
  refine anyT_take (i := 10) (v := ?ov10) (by simp only [List.getElem?_toArray, List.getElem?_cons_succ, List.getElem?_cons_zero]; exact rfl) (by kernel_rfl) (by kernel_rfl) (fun _ _ _ h => h) (by kernel_rfl) (by kernel_rfl) (Or.inl ⟨by rfl, ?oy10⟩) (by with_reducible exact (QQ.out.c0)) ?or10
  case oy10 => (intro w hSw; (try dsimp only at hSw); go_simp; try with_reducible rfl)
  try simp only [Act.put, List.setIfInBounds_toArray, List.set_cons_zero, List.set_cons_succ]
  refine anyT_take (i := 11) (v := ?ov11) (by simp only [List.getElem?_toArray, List.getElem?_cons_succ, List.getElem?_cons_zero]; exact rfl) (by kernel_rfl) (by kernel_rfl) (fun _ _ _ h => h) (by kernel_rfl) (by kernel_rfl) (Or.inl ⟨by rfl, ?oy11⟩) (by with_reducible exact (QQ.out.c0)) ?or11
  case oy11 => (intro w hSw; (try dsimp only at hSw); go_simp; try with_reducible rfl)
  try simp only [Act.put, List.setIfInBounds_toArray, List.set_cons_zero, List.set_cons_succ]
  refine anyT_take (i := 12) (v := ?ov12) (by simp only [List.getElem?_toArray, List.getElem?_cons_succ, List.getElem?_cons_zero]; exact rfl) (by kernel_rfl) (by kernel_rfl) (fun _ _ _ h => h) (by kernel_rfl) (by kernel_rfl) (Or.inl ⟨by rfl, ?oy12⟩) (by with_reducible exact (QQ.out.c0)) ?or12
  case oy12 => (intro w hSw; (try dsimp only at hSw); go_simp; try with_reducible rfl)
  try simp only [Act.put, List.setIfInBounds_toArray, List.set_cons_zero, List.set_cons_succ]
  refine anyT_take (i := 13) (v := ?ov13) (by simp only [List.getElem?_toArray, List.getElem?_cons_succ, List.getElem?_cons_zero]; exact rfl) (by kernel_rfl) (by kernel_rfl) (fun _ _ _ h => h) (by kernel_rfl) (by kernel_rfl) (Or.inl ⟨by rfl, ?oy13⟩) (by with_reducible exact (QQ.out.c0)) ?or13
  case oy13 => (intro w hSw; (try dsimp only at hSw); go_simp; try with_reducible rfl)
  try simp only [Act.put, List.setIfInBounds_toArray, List.set_cons_zero, List.set_cons_succ]
  refine anyT_take (i := 14) (v := ?ov14) (by simp only [List.getElem?_toArray, List.getElem?_cons_succ, List.getElem?_cons_zero]; exact rfl) (by kernel_rfl) (by kernel_rfl) (fun _ _ _ h => h) (by kernel_rfl) (by kernel_rfl) (Or.inl ⟨by rfl, ?oy14⟩) (by with_reducible exact (QQ.out.c0)) ?or14
  case oy14 => (intro w hSw; (try dsimp only at hSw); go_simp; try with_reducible rfl)
  try simp only [Act.put, List.setIfInBounds_toArray, List.set_cons_zero, List.set_cons_succ]
  refine anyT_take (i := 15) (v := ?ov15) (by simp only [List.getElem?_toArray, List.getElem?_cons_succ, List.getElem?_cons_zero]; exact rfl) (by kernel_rfl) (by kernel_rfl) (fun _ _ _ h => h) (by kernel_rfl) (by kernel_rfl) (Or.inl ⟨by rfl, ?oy15⟩) (by with_reducible exact (QQ.out.c0)) ?or15
  case oy15 => (intro w hSw; (try dsimp only at hSw); go_simp; try with_reducible rfl)
  try simp only [Act.put, List.setIfInBounds_toArray, List.set_cons_zero, List.set_cons_succ]
  have HB := hide (Below.refl wd.heap.size wd)
  refine anyT_one (i := 1) (by kernel_rfl) (by simp only [List.getElem?_toArray, List.getElem?_cons_succ, List.getElem?_cons_zero]; exact rfl) (fun K hK => ?_)
  go_simp
  have HBN := hide (HB.out.alloc HB.out.size (.cells #[] 78))
  have HGN := hide (Fw.start HB.out)
  refine hK.out _ _ (fun _ => ((QQ.out.below HBN.out).c0)) ?_
  clear hK K HB
  try simp only [Act.put, List.setIfInBounds_toArray, List.set_cons_zero, List.set_cons_succ]
  generalize World.alloc wd _ = wa at HBN HGN ⊢
  have HB := HBN
  clear HBN
  have HG := HGN
  clear HGN
  refine anyT_one (i := 8) (by kernel_rfl) (by simp only [List.getElem?_toArray, List.getElem?_cons_succ, List.getElem?_cons_zero]; exact rfl) (fun K hK => ?_)
  refine step_append_fw (by rfl) (.tmp 5) (.tmp 11) (by rfl) (by rfl) HG.out _ k _ (R.take k) (by rfl) (by rw [List.length_take, HLEN.out]; omega) HNIL.out ((lies3_own (QQ.out.below HB.out).own).1.take k) k (by omega) (by omega) (fun g8 cap8 w8 hG hg hcap => ?_)
  have HBN := hide hG.low
  have HGN := hide hG
  refine hK.out _ _ (fun _ => ((QQ.out.below HBN.out).c0)) ?_
  clear hK K HB HG hG hg hcap
  try simp only [Act.put, List.setIfInBounds_toArray, List.set_cons_zero, List.set_cons_succ]
  have HB := HBN
  clear HBN
  have HG := HGN
  clear HGN
  refine anyT_one (i := 16) (by kernel_rfl) (by simp only [List.getElem?_toArray, List.getElem?_cons_succ, List.getElem?_cons_zero]; exact rfl) (fun K hK => ?_)
  refine step_append_fw (by rfl) (.tmp 12) (.tmp 19) (by rfl) (by rfl) HG.out (part3 A c j) (d.l.length - j) _ (R.drop j) (by rfl) (by rw [List.length_drop, HLEN.out]) (part3_none HNIL.out) ((lies3_own (QQ.out.below HB.out).own).1.rest (by rw [HLEN.out]; exact HCAP.out) j) (k + (d.l.length - j)) rfl (by omega) (fun g16 cap16 w16 hG hg hcap => ?_)
  have HBN := hide hG.low
  have HGN := hide hG
  refine hK.out _ _ (fun _ => ((QQ.out.below HBN.out).c0)) ?_
  clear hK K HB HG hG hg hcap
  try simp only [Act.put, List.setIfInBounds_toArray, List.set_cons_zero, List.set_cons_succ]
  have HB := HBN
  clear HBN
  have HG := HGN
  clear HGN
  refine anyT_one (i := 17) (by kernel_rfl) (by simp only [List.getElem?_toArray, List.getElem?_cons_succ, List.getElem?_cons_zero]; exact rfl) (fun K hK => ?_)
  go_simp
  refine hK.out _ _ (fun _ => ((QQ.out.below HB.out).c0)) ?_
  clear hK K
  try simp only [Act.put, List.setIfInBounds_toArray, List.set_cons_zero, List.set_cons_succ]
  refine anyT_one (i := 18) (by kernel_rfl) (by simp only [List.getElem?_toArray, List.getElem?_cons_succ, List.getElem?_cons_zero]; exact rfl) (fun K hK => ?_)
  go_simp
  refine hK.out _ _ (fun _ => ((QQ.out.below HB.out).c0)) ?_
  clear hK K
  try simp only [Act.put, List.setIfInBounds_toArray, List.set_cons_zero, List.set_cons_succ]
  refine anyT_one (i := 19) (by kernel_rfl) (by simp only [List.getElem?_toArray, List.getElem?_cons_succ, List.getElem?_cons_zero]; exact rfl) (fun K hK => ?_)
  have f0 := (QQ.out.below HB.out).row.free 0
  have f1 := (QQ.out.below HB.out).c0
  have fin := hide (QQ.out.relist HG.out (fun x hx => .inl (by simp only [List.nil_append, List.mem_append] at hx; exact hx.elim List.mem_of_mem_take List.mem_of_mem_drop)) (l' := d.l.take k ++ d.l.drop j) (by rw [List.nil_append, List.map_append, List.map_take, List.map_drop, QQ.out.ls]))
  go_simp
  refine hK.out _ _ (fun e => absurd rfl e) ?_
  clear hK K f0 f1
  refine anyT_done (by kernel_rfl) ?_
  refine NoPanic.normal ?_
  go_wp2_with fail
  all_goals go_end0
  all_goals exact ⟨rfl, _, ⟨_, _, _, fin.out.1⟩, HO.out _ _ (Own.more fin.out.2.1) fin.out.2.2⟩
set_option maxHeartbeats 1000000 in
theorem power_any (h : Rp S w g R A c d) (hok : DOk d) :
    Calls Try.prog 47 #[.pointer (some ⟨g, 0, none⟩)] w fun e w' => e = .returned (.bool d.spends) ∧ Rp S w' g R A c d.spent ∧ w.grownBy w' (some g) := by
  have c2 : w.cell? ⟨g, 2, none⟩ = some (.int .i64 d.left) := h.row.cell 2
  have c3 : w.cell? ⟨g, 3, none⟩ = some (.bool d.off) := h.row.cell 3
  have f2 : w.frozen? ⟨g, 2, none⟩ = false := h.row.free 2
  have f3 : w.frozen? ⟨g, 3, none⟩ = false := h.row.free 3
  have hlo := hok.left
  by_cases h0 : d.left = 0
  · have H := hide (show DS.spends d = false ∧ Rp S (w.setCell ⟨g, 3, none⟩ (.bool true)) g R A c d.spent ∧ w.grownBy (w.setCell ⟨g, 3, none⟩ (.bool true)) (some g) from by
      have hg := grown_put (grown_refl w (some g)) 3 (.bool true)
      have e : d.spent = { d with off := true } := by unfold DS.spent; rw [if_pos h0]
      refine ⟨by unfold DS.spends; rw [h0]; rfl, h.cells hg ?_ (spent_l d), hg⟩
      rw [e]; exact h.row.put 3 (.bool true))
    rw [h0] at c2
    clear h hlo hok
    go_enter Try.func47, Try.ntmps47
    go_wp2
    go_ret
    exact ⟨ret_bool H.out.1.symm, H.out.2⟩
  · by_cases h1 : 0 < d.left
    · have H := hide (show DS.spends d = true ∧ Rp S (w.setCell ⟨g, 2, none⟩ (.int .i64 (d.left - 1))) g R A c d.spent ∧ w.grownBy (w.setCell ⟨g, 2, none⟩ (.int .i64 (d.left - 1))) (some g) from by
        have hg := grown_put (grown_refl w (some g)) 2 (.int .i64 (d.left - 1))
        have e : d.spent = { d with left := d.left - 1 } := by unfold DS.spent; rw [if_neg h0, if_pos h1]
        refine ⟨by unfold DS.spends; simpa using h0, h.cells hg ?_ (spent_l d), hg⟩
        rw [e]; exact h.row.put 2 (.int .i64 (d.left - 1)))
      clear h hok
      generalize hl : d.left = lf at *
      clear hl
      go_enter Try.func47, Try.ntmps47
      go_wp2
      go_ret
      exact ⟨ret_bool H.out.1.symm, H.out.2⟩
    · have hm : d.left = -1 := by omega
      have H := hide (show DS.spends d = true ∧ Rp S w g R A c d.spent ∧ w.grownBy w (some g) from by
        have e : d.spent = d := by unfold DS.spent; rw [if_neg h0, if_neg h1]
        exact ⟨by unfold DS.spends; rw [hm]; rfl, e.symm ▸ h, grown_refl _ _⟩)
      rw [hm] at c2
      clear h hlo hok h0 h1
      go_enter Try.func47, Try.ntmps47
      go_wp2
      go_ret
      exact ⟨ret_bool H.out.1.symm, H.out.2⟩
end
end Go.Proofs.Ytllgjbkmemheoaa
