/- The program's closure of Prune, maps.DeleteFunc over it. Conditions: the Index lies in memory; what is known is right. -/
import Derived.Test.YtfihcgimgngmhaaVg
import Derived.Test.YtfihcgimgngmhaaVd
import Derived.Test.YtfihcgimgngmhaaVe
import Derived.LoopTactic
import Derived.Deep.DeepCutAuto
import Derived.BigQuiet
import Derived.Lib.MinMax
namespace Go.Proofs.Ytfihcgimgngmhaa
set_option maxRecDepth 100000
open Go.RowKit Go.Maps
theorem reach_over {d : List Int} {e : En} (h : rightI e.r e.s = true) : reachB d e.r e.s = !overB d e := by
  unfold reachB overB
  rw [h, Bool.true_and]
  by_cases h1 : e.s ≤ ix d e.r.toNat
  · rw [decide_eq_true h1, decide_eq_false (by omega)]; rfl
  · rw [decide_eq_false h1, decide_eq_true (by omega)]; rfl
set_option maxHeartbeats 4000000 in
theorem pcl_any (g b q : Nat) (d : List Int) (e : En) (w : World) (h : Row w g 62 (pC b d)) (h7 : d.length = 7) (hq : Row w q 22 #[.pointer (some ⟨g, 0, none⟩)]) (hr : rightI e.r e.s = true) :
    Calls Try.prog 30 #[.agg #[.int .i64 e.r, .int .i64 e.s], .agg #[.int .i64 e.c.k, .int .i64 e.c.c, .int .i64 e.c.q, .string e.c.key, .string e.c.en, .string e.c.old, .string e.c.val, .int .i64 e.q], .pointer (some ⟨q, 0, none⟩)] w (fun en w' => en = .returned (.bool (!overB d e)) ∧ Below w.heap.size w w') := by
  rw [← reach_over hr]
  obtain ⟨d0, d1, d2, d3, d4, d5, d6, rfl⟩ := len7 h7
  have HRE := hide (fun w => reach_any d0 d1 d2 d3 d4 d5 d6 e.r e.s w)
  obtain ⟨td, htd⟩ : ∃ t, reachB [d0, d1, d2, d3, d4, d5, d6] e.r e.s = t := ⟨_, rfl⟩
  rw [htd] at HRE ⊢
  have HB := hide (kept_alloc (kept_alloc (kept_refl w) (.cells #[.int .i64 e.r, .int .i64 e.s] 26)) (.cells #[.int .i64 e.c.k, .int .i64 e.c.c, .int .i64 e.c.q, .string e.c.key, .string e.c.en, .string e.c.old, .string e.c.val, .int .i64 e.q] 64))
  have R5 := hide ((Row.new w 26 #[.int .i64 e.r, .int .i64 e.s]).alloc (.cells #[.int .i64 e.c.k, .int .i64 e.c.c, .int .i64 e.c.q, .string e.c.key, .string e.c.en, .string e.c.old, .string e.c.val, .int .i64 e.q] 64))
  have RG := hide (h.below HB.out h.lt)
  have RQ := hide (hq.below HB.out hq.lt)
  clear h hq h7 hr htd
  go_enter Try.func30, Try.ntmps30
  go_upto_region 1 with (fail)
  generalize (w.alloc (.cells #[.int .i64 e.r, .int .i64 e.s] 26)).alloc (.cells #[.int .i64 e.c.k, .int .i64 e.c.c, .int .i64 e.c.q, .string e.c.key, .string e.c.en, .string e.c.old, .string e.c.val, .int .i64 e.q] 64) = w1 at HB R5 RG RQ ⊢
  have HB0 : Below w1.heap.size w1 w1 := kept_refl w1
  refine wp_region_sp (fun w' => Below w1.heap.size w1 w') (by kernel_rfl) (by kernel_rfl) (show Below w1.heap.size w1 w1.drew from kept_drewN HB0 1) ?_
  generalize hS : (fun w' => Below w1.heap.size w1 w') = S
  have l0 : ∀ z : Sp S, z.w.cell? ⟨w.heap.size, 0, none⟩ = some (.int .i64 e.r) := by subst hS; exact fun z => (R5.out.below z.ok R5.out.lt).cell 0
  have l1 : ∀ z : Sp S, z.w.cell? ⟨w.heap.size, 1, none⟩ = some (.int .i64 e.s) := by subst hS; exact fun z => (R5.out.below z.ok R5.out.lt).cell 1
  have l2 : ∀ z : Sp S, z.w.cell? ⟨q, 0, none⟩ = some (.pointer (some ⟨g, 0, none⟩)) := by subst hS; exact fun z => (RQ.out.below z.ok RQ.out.lt).cell 0
  have l3 : ∀ z : Sp S, z.w.cell? ⟨g, 1, none⟩ = some (.int .i64 d0) := by subst hS; exact fun z => (RG.out.below z.ok RG.out.lt).cell 1
  have l4 : ∀ z : Sp S, z.w.cell? ⟨g, 2, none⟩ = some (.int .i64 d1) := by subst hS; exact fun z => (RG.out.below z.ok RG.out.lt).cell 2
  have l5 : ∀ z : Sp S, z.w.cell? ⟨g, 3, none⟩ = some (.int .i64 d2) := by subst hS; exact fun z => (RG.out.below z.ok RG.out.lt).cell 3
  have l6 : ∀ z : Sp S, z.w.cell? ⟨g, 4, none⟩ = some (.int .i64 d3) := by subst hS; exact fun z => (RG.out.below z.ok RG.out.lt).cell 4
  have l7 : ∀ z : Sp S, z.w.cell? ⟨g, 5, none⟩ = some (.int .i64 d4) := by subst hS; exact fun z => (RG.out.below z.ok RG.out.lt).cell 5
  have l8 : ∀ z : Sp S, z.w.cell? ⟨g, 6, none⟩ = some (.int .i64 d5) := by subst hS; exact fun z => (RG.out.below z.ok RG.out.lt).cell 6
  have l9 : ∀ z : Sp S, z.w.cell? ⟨g, 7, none⟩ = some (.int .i64 d6) := by subst hS; exact fun z => (RG.out.below z.ok RG.out.lt).cell 7
  have ne : Nonempty (Sp S) := by subst hS; exact ⟨⟨_, HB0⟩⟩
  have STEP := hide (show ∀ w w', S w → Below w.heap.size w w' → S w' by subst hS; exact fun _ _ h hb => kept_trans h hb)
  have OLD := hide (show ∀ z : Sp S, Below w1.heap.size w1 z.w by subst hS; exact fun z => z.ok)
  clear HB0 hS
  repeat (go_big_quiet_step ((first | (go_at_call 24; with_reducible exact sp_call STEP.out _ (HRE.out _)))))
  refine wpQuiet_nil ?_
  intro kk
  have OK := hide (OLD.out kk)
  generalize kk.w = wk at OK ⊢
  clear l0 l1 l2 l3 l4 l5 l6 l7 l8 l9 ne OLD STEP
  go_wp2
  go_ret
  exact ⟨rfl, kept_trans HB.out OK.out⟩
/-- While DeleteFunc goes on. -/
structure Pd (w wr : World) (g b q gr : Nat) (d : List Int) : Prop where
  kq : Kq (fun k => k = b) w wr
  row : Row wr g 62 (pC b d)
  rq : Row wr q 22 #[.pointer (some ⟨g, 0, none⟩)]
  n1 : g < gr
  n2 : q < gr
  n3 : w.heap.size ≤ gr
section
variable {w wr wx : World} {g b q gr : Nat} {d : List Int}
theorem Pd.below (h : Pd w wr g b q gr d) (hb : Below wr.heap.size wr wx) : Pd w wx g b q gr d :=
  ⟨h.kq.trans (Kq.of_below (o := fun k => k = b) hb) (fun _ _ e => e), h.row.below hb h.row.lt, h.rq.below hb h.rq.lt, h.n1, h.n2, h.n3⟩
theorem Pd.grown (h : Pd w wr g b q gr d) (hg : wr.grownBy wx (some gr)) : Pd w wx g b q gr d := by
  have h1 := h.n1
  have h2 := h.n2
  have h3 := h.n3
  exact ⟨h.kq.trans (Kq.grown (o := fun k => k = gr) hg (fun k e => by injection e with e; exact e.symm)) (fun k hk e => by omega), h.row.grown hg (by simp; omega), h.rq.grown hg (by simp; omega), h.n1, h.n2, h.n3⟩
theorem Pd.turn (h : Pd w wr g b q gr d) (hg : wr.grownBy wx (some b)) (h1 : g ≠ b) (h2 : q ≠ b) : Pd w wx g b q gr d :=
  ⟨h.kq.trans (Kq.grown (o := fun k => k = b) hg (fun k e => by injection e with e; exact e.symm)) (fun k hk e => e), h.row.grown hg (by simpa using h1), h.rq.grown hg (by simpa using h2), h.n1, h.n2, h.n3⟩
end
/-- Which are still there; those that have come are above the cut. -/
structure Pp (k : List En) (d : List Int) (p : En → Bool) (left : Lit → Bool) : Prop where
  over : ∀ e, e ∈ k → overB d e = true → p e = true
  came : ∀ e, e ∈ k → p e = true → left (kl e.key) = false → overB d e = true
theorem Pp.fin {k : List En} {d : List Int} {p : En → Bool} {left : Lit → Bool} (h : Pp k d p left) (hd : doneE (k.filter p) left = k.filter p) : k.filter p = k.filter (overB d) := by
  refine List.filter_congr fun e he => ?_
  cases hp : p e
  · cases ho : overB d e
    · rfl
    · rw [h.over e he ho] at hp; cases hp
  · have hm : e ∈ doneE (k.filter p) left := by rw [hd]; exact List.mem_filter.2 ⟨he, hp⟩
    have hl := (List.mem_filter.1 hm).2
    rw [h.came e he hp (by simpa using hl)]
theorem kl_same_key {e f : En} (he : rightI e.r e.s = true) (hf : rightI f.r f.s = true) : Lit.sameKey (kl e.key) (kl f.key) = decide (e.key = f.key) := kl_same (key_ok he) (key_ok hf)
theorem nd_inj {k : List En} (h : (k.map En.key).Nodup) {e f : En} (he : e ∈ k) (hf : f ∈ k) (hk : e.key = f.key) : e = f := by
  induction k with
  | nil => cases he
  | cons a k ih =>
    rw [List.map_cons, List.nodup_cons] at h
    rcases List.mem_cons.1 he with rfl | he2
    · rcases List.mem_cons.1 hf with rfl | hf2
      · rfl
      · exact absurd (List.mem_map.2 ⟨f, hf2, hk.symm⟩) h.1
    · rcases List.mem_cons.1 hf with rfl | hf2
      · exact absurd (List.mem_map.2 ⟨e, he2, hk⟩) h.1
      · exact ih h.2 he2 hf2
theorem Pp.stay {k : List En} {d : List Int} {p : En → Bool} {left : Lit → Bool} (h : Pp k d p left) (hn : (k.map En.key).Nodup) (hr : ∀ e, e ∈ k → rightI e.r e.s = true) {e : En} (he : e ∈ k) (ho : overB d e = true) : Pp k d p (strikeL left e.key) := by
  refine ⟨h.over, fun f hf hp hl => ?_⟩
  unfold strikeL at hl
  rw [kl_same_key (hr f hf) (hr e he)] at hl
  by_cases hk : f.key = e.key
  · rw [nd_inj hn hf he hk]; exact ho
  · rw [decide_eq_false hk, Bool.not_false, Bool.and_true] at hl
    exact h.came f hf hp hl
theorem Pp.gone {k : List En} {d : List Int} {p : En → Bool} {left : Lit → Bool} (h : Pp k d p left) (hn : (k.map En.key).Nodup) (hr : ∀ e, e ∈ k → rightI e.r e.s = true) {e : En} (he : e ∈ k) (ho : overB d e = false) : Pp k d (fun f => p f && decide (f.key ≠ e.key)) (strikeL (strikeL left e.key) e.key) := by
  refine ⟨fun f hf hof => ?_, fun f hf hp hl => ?_⟩
  · rw [h.over f hf hof, Bool.true_and]
    refine decide_eq_true fun hk => ?_
    rw [nd_inj hn hf he hk, ho] at hof
    cases hof
  · rw [Bool.and_eq_true, decide_eq_true_eq] at hp
    unfold strikeL at hl
    rw [kl_same_key (hr f hf) (hr e he), decide_eq_false hp.2, Bool.not_false, Bool.and_true, Bool.and_true] at hl
    exact h.came f hf hp.1 hl
theorem del_filter (k : List En) (p : En → Bool) (x : Int × Int) : delM (kE (k.filter p)) x = kE (k.filter fun f => p f && decide (f.key ≠ x)) := by
  rw [delM_kE, List.filter_filter]
  congr 1
  refine List.filter_congr fun e _ => ?_
  exact Bool.and_comm _ _
set_option maxHeartbeats 8000000 in
theorem pdel_any (g b q : Nat) (x : Ix) (w : World) (h : Px w g b x) (hq : Row w q 22 #[.pointer (some ⟨g, 0, none⟩)]) (hr : ∀ e, e ∈ x.k → rightI e.r e.s = true) (hn : (x.k.map En.key).Nodup) :
    Calls Try.prog 29 #[.map (some b), .func (.func 30) #[] #[.pointer (some ⟨q, 0, none⟩)]] w (fun e w' => e = .returned (.tuple #[]) ∧ Px w' g b ⟨x.k.filter (overB x.d), x.d⟩ ∧ Kq (fun k => k = b) w w') := by
  obtain ⟨xk, d⟩ := x
  have HM := hide h.mp
  have HD0 := hide (fun (w3 : World) (hb : Below w.heap.size w w3) => (show Pd w w3 g b q w.heap.size d from ⟨.of_below hb, h.row.below hb h.row.lt, hq.below hb hq.lt, h.row.lt, hq.lt, Nat.le_refl _⟩))
  have HGB := hide (show g ≠ b ∧ q ≠ b from ⟨fun e => h.ne e.symm, fun e => mp_off h.mp hq e.symm⟩)
  have HR := hide hr
  have HN := hide hn
  have H7 := hide h.d7
  clear h hq hr hn
  simp only at HM HR HN H7 ⊢
  go_enter Try.func29, Try.ntmps29
  go_wp2_with (first
    | (at_range; refine wpList_range_mp HM.out rfl _ rfl Try.underlying60 rfl ?_; intro w3 left0 hrg0 hd0 hb0)
    | go_in)
  have HP := hide (HD0.out w3 hb0)
  have HL0 := hide (show Pp xk d (fun _ => true) left0 from ⟨fun _ _ _ => rfl, fun e he _ hl => by
    have h1 := doneE_nil hd0
    have h2 : e ∈ doneE xk left0 := List.mem_filter.2 ⟨he, by rw [hl]; rfl⟩
    rw [h1] at h2
    cases h2⟩)
  have HR0 := hide (show Rg w3 b w.heap.size (kE (xk.filter fun _ => true)) left0 by rw [show (xk.filter fun _ => true) = xk from List.filter_eq_self.2 (fun _ _ => rfl)]; exact hrg0)
  clear hrg0 hb0 hd0 HD0 HM
  go_frame
  obtain ⟨gr, hgr⟩ : ∃ g, w.heap.size = g := ⟨_, rfl⟩
  have HGR := hide hgr
  rw [hgr] at HP HR0 ⊢
  clear hgr
  go_loopw [] (fun wr => ∃ left p, Rg wr b gr (kE (xk.filter p)) left ∧ Hid (Pp xk d p left) ∧ Hid (Pd w wr g b q gr d)) (fun wr => wr.rangeLeft b gr)
  case atStart => exact ⟨_, _, HR0.out, HL0, HP⟩
  case round =>
    clear HP HR0 HL0
    obtain ⟨left, p, hrg, HPP, HP⟩ := hrel
    go_wp2_with (first
      | (at_next; refine wpList_next_rg hrg rfl _ rfl rfl ?_ ?_)
      | go_in)
    · intro hall
      have HE := hide (show Px wr g b ⟨xk.filter (overB d), d⟩ from ⟨HP.out.row, by rw [← HPP.out.fin (doneE_all hall)]; exact hrg.mp, H7.out⟩)
      clear hall hrg
      go_wp2
      refine bodyPost_end (results_none rfl _ _ _) rfl ?_
      exact ⟨rfl, HE.out, HP.out.kq⟩
    · intro er0 es0 ev w4 hm hrg4 hpm hlt hg4 hen
      obtain ⟨e, hem, heq⟩ := mem_kE.1 hm
      obtain rfl : e.r = er0 := congrArg (fun z => z.1.1) heq
      obtain rfl : e.s = es0 := congrArg (fun z => z.1.2) heq
      obtain rfl : enV e = ev := congrArg (fun z => z.2) heq
      have hek := (List.mem_filter.1 hem).1
      have HEK := hide hek
      have HRI := hide (HR.out e hek)
      have HP4 := hide (HP.out.grown hg4)
      have HBR := hide (hrg.lt)
      clear heq hm hpm hg4 hek hem HP hrg
      replace hen : (Instr.entry (.pointer (some ⟨gr, 0, none⟩))).run Try.prog w4 = .ok (.tuple #[.agg #[.int .i64 e.r, .int .i64 e.s], .agg #[.int .i64 e.c.k, .int .i64 e.c.c, .int .i64 e.c.q, .string e.c.key, .string e.c.en, .string e.c.old, .string e.c.val, .int .i64 e.q]]) w4 := hen
      have HB5 := hide (kept_alloc (kept_alloc (kept_refl w4) (.cells #[.int .i64 e.r, .int .i64 e.s] 26)) (.cells #[.int .i64 e.c.k, .int .i64 e.c.c, .int .i64 e.c.q, .string e.c.key, .string e.c.en, .string e.c.old, .string e.c.val, .int .i64 e.q] 64))
      have V1 := hide ((Row.new w4 26 #[.int .i64 e.r, .int .i64 e.s]).alloc (.cells #[.int .i64 e.c.k, .int .i64 e.c.c, .int .i64 e.c.q, .string e.c.key, .string e.c.en, .string e.c.old, .string e.c.val, .int .i64 e.q] 64))
      have V2 := hide (Row.new (w4.alloc (.cells #[.int .i64 e.r, .int .i64 e.s] 26)) 64 #[.int .i64 e.c.k, .int .i64 e.c.c, .int .i64 e.c.q, .string e.c.key, .string e.c.en, .string e.c.old, .string e.c.val, .int .i64 e.q])
      rw [show (w4.alloc (.cells #[.int .i64 e.r, .int .i64 e.s] 26)).heap.size = w4.heap.size + 1 by simp] at V2
      have HRG := hide (hrg4.below HB5.out)
      have HLT := hide (show ((w4.alloc (.cells #[.int .i64 e.r, .int .i64 e.s] 26)).alloc (.cells #[.int .i64 e.c.k, .int .i64 e.c.c, .int .i64 e.c.q, .string e.c.key, .string e.c.en, .string e.c.old, .string e.c.val, .int .i64 e.q] 64)).rangeLeft b gr < wr.rangeLeft b gr by rw [hrg4.left_below HB5.out]; exact hlt)
      have HP5 := hide (HP4.out.below HB5.out)
      clear hrg4 hlt HP4
      try go_frame
      go_upto_region 3 with (fail)
      generalize (w4.alloc (.cells #[.int .i64 e.r, .int .i64 e.s] 26)).alloc (.cells #[.int .i64 e.c.k, .int .i64 e.c.c, .int .i64 e.c.q, .string e.c.key, .string e.c.en, .string e.c.old, .string e.c.val, .int .i64 e.q] 64) = w5 at HB5 V1 V2 HRG HLT HP5 ⊢
      generalize w4.heap.size = v at V1 V2 HB5 ⊢
      generalize (Value.tuple #[.bool true, .agg #[.int .i64 e.r, .int .i64 e.s], enV e]) = vt1
      clear hen HB5
      obtain ⟨t, ht⟩ : ∃ t, overB d e = t := ⟨_, rfl⟩
      have HT := hide ht
      have HCL := hide (pcl_any g b q d e w5 HP5.out.row H7.out HP5.out.rq HRI.out)
      rw [ht] at HCL
      clear ht
      have v0 : w5.cell? ⟨v, 0, none⟩ = some (.int .i64 e.r) := V1.out.cell 0
      have v1 : w5.cell? ⟨v, 1, none⟩ = some (.int .i64 e.s) := V1.out.cell 1
      have n0 : w5.cell? ⟨v + 1, 0, none⟩ = some (.int .i64 e.c.k) := V2.out.cell 0
      have n1 : w5.cell? ⟨v + 1, 1, none⟩ = some (.int .i64 e.c.c) := V2.out.cell 1
      have n2 : w5.cell? ⟨v + 1, 2, none⟩ = some (.int .i64 e.c.q) := V2.out.cell 2
      have n3 : w5.cell? ⟨v + 1, 3, none⟩ = some (.string e.c.key) := V2.out.cell 3
      have n4 : w5.cell? ⟨v + 1, 4, none⟩ = some (.string e.c.en) := V2.out.cell 4
      have n5 : w5.cell? ⟨v + 1, 5, none⟩ = some (.string e.c.old) := V2.out.cell 5
      have n6 : w5.cell? ⟨v + 1, 6, none⟩ = some (.string e.c.val) := V2.out.cell 6
      have n7 : w5.cell? ⟨v + 1, 7, none⟩ = some (.int .i64 e.q) := V2.out.cell 7
      cases t
      case true =>
        go_wp2_with (first
          | (go_at_call 30; (with_reducible refine HCL.out.mono ?_); rintro ea wa ⟨rfl, HBA⟩; replace HP5 := hide (HP5.out.below HBA); have HRA := hide (HRG.out.below HBA); have HLA := hide (show wa.rangeLeft b gr < wr.rangeLeft b gr by rw [HRG.out.left_below HBA]; exact HLT.out); clear HBA v0 v1 n0 n1 n2 n3 n4 n5 n6 n7)
          | go_in)
        exact ⟨⟨_, _, HRA.out, hide (HPP.out.stay HN.out HR.out HEK.out HT.out), HP5⟩, HLA.out⟩
      case false =>
        go_wp2_with (first
          | (go_at_call 30; (with_reducible refine HCL.out.mono ?_); rintro ea wa ⟨rfl, HBA⟩; replace HP5 := hide (HP5.out.below HBA); have HRA := hide (HRG.out.below HBA); have HLA := hide (show wa.rangeLeft b gr < wr.rangeLeft b gr by rw [HRG.out.left_below HBA]; exact HLT.out); replace V1 := hide (V1.out.below HBA V1.out.lt); clear HBA v0 v1 n0 n1 n2 n3 n4 n5 n6 n7; have v0 : wa.cell? ⟨v, 0, none⟩ = some (.int .i64 e.r) := V1.out.cell 0; have v1 : wa.cell? ⟨v, 1, none⟩ = some (.int .i64 e.s) := V1.out.cell 1)
          | (at_delete; refine wpList_delete_rg HRA.out rfl _ _ rfl Try.underlying60 rfl (e.r, e.s) (key_ok HRI.out) rfl ?_; intro w6 hrg6 hle6 hg6; replace HP5 := hide (HP5.out.turn hg6 HGB.out.1 HGB.out.2); have HR6 := hide (show Rg w6 b gr (kE (xk.filter fun f => p f && decide (f.key ≠ e.key))) (strikeL (strikeL left e.key) e.key) from del_filter xk p e.key ▸ hrg6); have HL6 := hide (Nat.lt_of_le_of_lt hle6 HLA.out); clear hrg6 hle6 hg6 v0 v1)
          | go_in)
        refine ⟨?_, HL6.out⟩
        repeat apply Exists.intro
        exact ⟨⟨_, _, HR6.out, hide (HPP.out.gone HN.out HR.out HEK.out HT.out), HP5⟩, rfl⟩
end Go.Proofs.Ytfihcgimgngmhaa
/- The program's Prune of package interf's chapter. Conditions: the Index lies in memory; what it holds is right. -/
namespace Go.Proofs.Ytfihcgimgngmhaa
set_option maxRecDepth 100000
open Go.RowKit Go.Maps
/-- A bound of the program's Prune. -/
def upP (d u : List Int) (k : Nat) : Int := max (ix d k) (min (ix u k) 1073741824)
theorem upP_is {x : Ix} (h : Kn x) (u : List Int) : (List.range 7).map (upP x.d u) = upD x.d u := by
  unfold upD
  refine List.map_congr_left fun k hk => ?_
  have := h.low k (List.mem_range.1 hk)
  unfold upP
  omega
structure Pu (w wr : World) (g b : Nat) (x : Ix) (D : List Int) : Prop where
  kq : Kq (fun k => k = g) w wr
  px : Px wr g b ⟨x.k, D⟩
  bx : Row wr w.heap.size 22 #[.pointer (some ⟨g, 0, none⟩)]
section
variable {w wr wx : World} {g b : Nat} {x : Ix} {D : List Int}
theorem Pu.below (h : Pu w wr g b x D) (hb : Below wr.heap.size wr wx) : Pu w wx g b x D := ⟨h.kq.trans (Kq.of_below (o := fun k => k = g) hb) (fun _ _ e => e), h.px.below hb, h.bx.below hb h.bx.lt⟩
theorem Pu.put (h : Pu w wr g b x D) (k : Nat) (v : Int) : Pu w (wr.setCell ⟨g, 1 + k, none⟩ (.int .i64 v)) g b x (D.set k v) := by
  have hg := grown_put (grown_refl wr (some g)) (1 + k) (.int .i64 v)
  exact ⟨h.kq.trans (Kq.grown (o := fun k => k = g) hg (fun k e => by injection e with e; exact e.symm)) (fun _ _ e => e), h.px.putCut k v, h.bx.grown hg (by have := rows_ne h.px.row h.bx (by decide); simpa using Ne.symm this)⟩
end
theorem Pu.start {w : World} {g b : Nat} {x : Ix} (h : Px w g b x) (o : Obj) : Pu w ((w.alloc (.cells #[.pointer (some ⟨g, 0, none⟩)] 22)).alloc o) g b x x.d := by
  have hb := kept_alloc (kept_alloc (kept_refl w) (.cells #[.pointer (some ⟨g, 0, none⟩)] 22)) o
  exact ⟨.of_below hb, h.below hb, (Row.new w _ _).alloc _⟩
set_option maxHeartbeats 8000000 in
theorem pprune_any (g b : Nat) (x : Ix) (u0 u1 u2 u3 u4 u5 u6 : Int) (w : World) (h : Px w g b x) (hk : Kn x) :
    Calls Try.prog 13 #[.pointer (some ⟨g, 0, none⟩), .agg #[.int .i64 u0, .int .i64 u1, .int .i64 u2, .int .i64 u3, .int .i64 u4, .int .i64 u5, .int .i64 u6]] w (fun e w' => e = .returned (.tuple #[]) ∧ Px w' g b (pruneX x [u0, u1, u2, u3, u4, u5, u6]) ∧ Kq (fun k => k = g ∨ k = b) w w') := by
  have HP := hide (show Pu w ((w.alloc (.cells #[.pointer (some ⟨g, 0, none⟩)] 22)).alloc (.cells #[.int .i64 u0, .int .i64 u1, .int .i64 u2, .int .i64 u3, .int .i64 u4, .int .i64 u5, .int .i64 u6] 32)) g b x (genk (upP x.d [u0, u1, u2, u3, u4, u5, u6]) x.d 0) by rw [genk_0 _ h.d7]; exact Pu.start h _)
  have RU := hide (Row.new (w.alloc (.cells #[.pointer (some ⟨g, 0, none⟩)] 22)) 32 #[.int .i64 u0, .int .i64 u1, .int .i64 u2, .int .i64 u3, .int .i64 u4, .int .i64 u5, .int .i64 u6])
  rw [show (w.alloc (.cells #[.pointer (some ⟨g, 0, none⟩)] 22)).heap.size = w.heap.size + 1 by simp] at RU
  have HK := hide hk
  have HI := hide (fun (k : Nat) (h : k < 7) (w : World) => index_deps u0 u1 u2 u3 u4 u5 u6 k h w)
  obtain ⟨AN, hAN⟩ : ∃ A, pruneX x [u0, u1, u2, u3, u4, u5, u6] = A := ⟨_, rfl⟩
  rw [hAN]
  have HAN := hide hAN
  have hmf : ∀ (fn : Fn) (first cap : Array Value) (w : World), (Instr.makeFunc fn first cap).run Try.prog w = .ok (.func fn first cap) w := fun _ _ _ _ => rfl
  clear h hk hAN
  go_enter Try.func13, Try.ntmps13
  go_upto_region 1 with (fail)
  generalize (w.alloc (.cells #[.pointer (some ⟨g, 0, none⟩)] 22)).alloc (.cells #[.int .i64 u0, .int .i64 u1, .int .i64 u2, .int .i64 u3, .int .i64 u4, .int .i64 u5, .int .i64 u6] 32) = w1 at HP RU ⊢
  have a0 : w1.cell? ⟨w.heap.size + 1, 0, none⟩ = some (.int .i64 u0) := RU.out.cell 0
  have a1 : w1.cell? ⟨w.heap.size + 1, 1, none⟩ = some (.int .i64 u1) := RU.out.cell 1
  have a2 : w1.cell? ⟨w.heap.size + 1, 2, none⟩ = some (.int .i64 u2) := RU.out.cell 2
  have a3 : w1.cell? ⟨w.heap.size + 1, 3, none⟩ = some (.int .i64 u3) := RU.out.cell 3
  have a4 : w1.cell? ⟨w.heap.size + 1, 4, none⟩ = some (.int .i64 u4) := RU.out.cell 4
  have a5 : w1.cell? ⟨w.heap.size + 1, 5, none⟩ = some (.int .i64 u5) := RU.out.cell 5
  have a6 : w1.cell? ⟨w.heap.size + 1, 6, none⟩ = some (.int .i64 u6) := RU.out.cell 6
  go_wp2
  clear a0 a1 a2 a3 a4 a5 a6 RU
  obtain ⟨u, hu⟩ : ∃ u, [u0, u1, u2, u3, u4, u5, u6] = u := ⟨_, rfl⟩
  rw [hu] at HP HI HAN
  generalize (Value.agg #[.int .i64 u0, .int .i64 u1, .int .i64 u2, .int .i64 u3, .int .i64 u4, .int .i64 u5, .int .i64 u6]) = vu at HI ⊢
  clear hu
  go_loopw [7] (fun i wr => ∃ k : Nat, k ≤ 7 ∧ i = .int .i64 k ∧ Hid (Pu w wr g b x (genk (upP x.d u) x.d k))) (fun i _ => 7 - (intOf i).toNat)
  case atStart => exact ⟨0, by omega, rfl, HP⟩
  case round =>
    clear HP
    obtain ⟨k, hk, rfl, HR⟩ := hrel
    by_cases hk7 : k < 7
    · have hk7i : (k : Int) < 7 := by omega
      have hk0i : (0 : Int) ≤ (k : Int) := by omega
      have hi := HI.out k hk7
      go_upto_region 4 with (fail)
      clear hi
      have x0 : wr.cell? ⟨w.heap.size, 0, none⟩ = some (.pointer (some ⟨g, 0, none⟩)) := HR.out.bx.cell 0
      have f1 : wr.cell? ⟨g, 1 + k, none⟩ = some (.int .i64 (ix x.d k)) := by
        have h := HR.out.px.cutAt hk7
        simp only at h
        rwa [genk_at _ _ hk7] at h
      have g1 : wr.frozen? ⟨g, 1 + k, none⟩ = false := HR.out.px.row.free (1 + k)
      have OK := hide (show Pu w (wr.setCell ⟨g, 1 + k, none⟩ (.int .i64 (max (ix x.d k) (min (ix u k) 1073741824)))).drew g b x (genk (upP x.d u) x.d (k + 1)) from by
        have h := (HR.out.put k (max (ix x.d k) (min (ix u k) 1073741824))).below (kept_drewN (kept_refl _) 1)
        rw [← genk_step]
        exact h)
      clear HR
      generalize ix u k = uk at OK ⊢
      go_region
      clear f1 g1 x0
      generalize World.drew (World.setCell wr _ _) = wv at OK ⊢
      go_wp2
      go_roundw
      case rel => exact ⟨k + 1, by omega, by go_num, OK⟩
      case measure => simp [intOf]; omega
    · obtain rfl : k = 7 := by omega
      rw [genk_7, upP_is HK.out] at HR
      have x0 : wr.cell? ⟨w.heap.size, 0, none⟩ = some (.pointer (some ⟨g, 0, none⟩)) := HR.out.bx.cell 0
      have f1 : wr.cell? ⟨g, 0, none⟩ = some (.map (some b)) := HR.out.px.known
      have HDL := hide (pdel_any g b w.heap.size ⟨x.k, upD x.d u⟩ wr HR.out.px HR.out.bx (fun e he => (may_iff.1 (HK.out.ok e he)).1) HK.out.nd)
      go_wp2_with (first
        | (go_at_call 29; (with_reducible refine HDL.out.mono ?_); rintro ea wa ⟨rfl, HPA, HKA⟩)
        | go_in)
      refine bodyPost_end (results_none rfl _ _ _) rfl ?_
      exact ⟨rfl, by rw [← HAN.out]; exact HPA, (HR.out.kq.mono (fun k e => .inl e)).trans (HKA.mono (o' := fun k => k = g ∨ k = b) (fun k e => .inr e)) (fun _ _ e => e)⟩
end Go.Proofs.Ytfihcgimgngmhaa
