/- The document's Note of package interf's chapter. Conditions: the Index lies in memory; it holds few. -/
import Derived.Test.YtfihcgimgngmhaaVe
import Derived.LoopTactic
import Derived.Deep.DeepCutAuto
import Derived.BigQuiet
namespace Go.Proofs.Ytfihcgimgngmhaa
set_option maxRecDepth 100000
open Go.RowKit
theorem putK_none {k : List En} {r s : Int} {c : Cm} {q : Int} (h : ∀ e, e ∈ k → e.at_ r s = false) : putK k r s c q = k ++ [⟨r, s, c, q⟩] := by
  unfold putK
  rw [if_neg (fun h2 => by
    obtain ⟨e, he, h3⟩ := List.any_eq_true.1 h2
    rw [h e he] at h3
    cases h3)]
theorem putK_at {k : List En} (hn : (k.map En.key).Nodup) {r s : Int} {c : Cm} {q : Int} {j : Nat} {e : En} (he : k[j]? = some e) (h : e.at_ r s = true) : putK k r s c q = k.set j ⟨r, s, c, q⟩ := by
  unfold putK
  rw [if_pos (List.any_eq_true.2 ⟨e, List.mem_of_getElem? he, h⟩)]
  refine List.ext_getElem? fun i => ?_
  rw [List.getElem?_map, List.getElem?_set]
  by_cases hij : j = i
  · subst hij
    have hj : j < k.length := by
      rcases Nat.lt_or_ge j k.length with h1 | h1
      · exact h1
      · rw [List.getElem?_eq_none h1] at he; cases he
    rw [if_pos rfl, if_pos hj, he]
    show some (if e.at_ r s = true then _ else _) = _
    rw [if_pos h]
  · rw [if_neg hij]
    cases hi : k[i]? with
    | none => rfl
    | some f =>
      show some (if f.at_ r s = true then _ else _) = _
      rw [if_neg]
      intro hf
      have h1 := at_iff.1 h
      have h2 := at_iff.1 hf
      have h3 : (k.map En.key)[j]? = some (r, s) := by rw [List.getElem?_map, he]; exact congrArg some h1
      have h4 : (k.map En.key)[i]? = some (r, s) := by rw [List.getElem?_map, hi]; exact congrArg some h2
      have hj : j < (k.map En.key).length := by
        rcases Nat.lt_or_ge j (k.map En.key).length with h5 | h5
        · exact h5
        · rw [List.getElem?_eq_none h5] at h3; cases h3
      exact hij ((List.getElem?_inj hj hn).1 (h3.trans h4.symm))
theorem isV_set (k : List En) (j : Nat) (e : En) : isV (k.set j e) = (isV k).set j [.int .i64 e.r, .int .i64 e.s] := by unfold isV; rw [List.map_set]
theorem csV_set (k : List En) (j : Nat) (e : En) : csV (k.set j e) = (csV k).set j e.c.l := by unfold csV; rw [List.map_set]
theorem qsV_set (k : List En) (j : Nat) (e : En) : qsV (k.set j e) = (qsV k).set j [.int .i64 e.q] := by unfold qsV; rw [List.map_set]
theorem set_same {α : Type} {l : List α} {j : Nat} {a : α} (h : l[j]? = some a) : l.set j a = l := by
  refine List.ext_getElem? fun i => ?_
  rw [List.getElem?_set]
  by_cases hij : j = i
  · subst hij
    have hj : j < l.length := by
      rcases Nat.lt_or_ge j l.length with h1 | h1
      · exact h1
      · rw [List.getElem?_eq_none h1] at h; cases h
    rw [if_pos rfl, if_pos hj, h]
  · rw [if_neg hij]
/-- What Note answers. -/
def AnsN (base g : Nat) (vL vC vS : Value) (x : Ix) (r s : Int) (c : Cm) (q : Int) (w : World) (e : Ending) (w' : World) : Prop :=
  e = .returned (.bool (mayN x.d r s c q)) ∧ ∃ vL' vC' vS', Rx base w' g vL' vC' vS' (noteX x r s c q) ∧ Kq (rxO g vL vC vS) w w'
theorem note_not {x : Ix} {r s : Int} {c : Cm} {q : Int} (h : mayN x.d r s c q = false) : noteX x r s c q = x := by unfold noteX; rw [if_neg (by rw [h]; simp)]
theorem note_may {x : Ix} {r s : Int} {c : Cm} {q : Int} (h : mayN x.d r s c q = true) : noteX x r s c q = ⟨putK x.k r s c q, x.d⟩ := by unfold noteX; rw [if_pos h]
set_option maxHeartbeats 8000000 in
theorem rnote_any (base g : Nat) (vL vC vS : Value) (x : Ix) (r s : Int) (c : Cm) (q : Int) (w : World) (h : Rx base w g vL vC vS x) (hb : base ≤ w.heap.size) (hn : (x.k.map En.key).Nodup) (hl : x.k.length ≤ 1000) :
    Calls Try.prog 17 #[.pointer (some ⟨g, 0, none⟩), .agg #[.int .i64 r, .int .i64 s], .agg #[.int .i64 c.k, .int .i64 c.c, .int .i64 c.q, .string c.key, .string c.en, .string c.old, .string c.val], .int .i64 q] w (AnsN base g vL vC vS x r s c q w) := by
  obtain ⟨A, a, B, b, C, cc, rfl, rfl, rfl, ha, hb2, hc2⟩ := h.form
  have HX := hide h
  have HCL := hide (show ∀ k, (Value.slice B x.k.length b).ownBlock = some k → k < w.heap.size from fun k e => (World.ownsRow.lt h.rc k e).2)
  have HOWN := hide (show ∀ k, ((Value.slice A x.k.length a).ownBlock = some k ∨ (Value.slice B x.k.length b).ownBlock = some k ∨ (Value.slice C x.k.length cc).ownBlock = some k) → k < w.heap.size from fun k hk => by
    rcases hk with e | e | e
    · exact (World.ownsRow.lt h.rl k e).2
    · exact (World.ownsRow.lt h.rc k e).2
    · exact (World.ownsRow.lt h.rs k e).2)
  have HN := hide hn
  have HB := hide hb
  have hld : x.d.length = 7 := h.d7
  have HLD := hide hld
  obtain ⟨n, hnn⟩ : ∃ n, x.k.length = n := ⟨_, rfl⟩
  rw [hnn] at HX HCL HOWN ha hb2 hc2 hl ⊢
  have HNN := hide hnn
  clear h hn hb hld hnn
  go_enter Try.func17, Try.ntmps17
  go_upto_region 1 with (fail)
  have HK1 := hide (kept_alloc (kept_alloc (kept_refl w) (.cells #[.int .i64 r, .int .i64 s] 26)) (.cells #[.int .i64 c.k, .int .i64 c.c, .int .i64 c.q, .string c.key, .string c.en, .string c.old, .string c.val] 29))
  have R5 := hide ((Row.new w 26 #[.int .i64 r, .int .i64 s]).alloc (.cells #[.int .i64 c.k, .int .i64 c.c, .int .i64 c.q, .string c.key, .string c.en, .string c.old, .string c.val] 29))
  have R6 := hide (show Row ((w.alloc (.cells #[.int .i64 r, .int .i64 s] 26)).alloc (.cells #[.int .i64 c.k, .int .i64 c.c, .int .i64 c.q, .string c.key, .string c.en, .string c.old, .string c.val] 29)) (w.heap.size + 1) 29 #[.int .i64 c.k, .int .i64 c.c, .int .i64 c.q, .string c.key, .string c.en, .string c.old, .string c.val] from by
    have h := Row.new (w.alloc (.cells #[.int .i64 r, .int .i64 s] 26)) 29 #[.int .i64 c.k, .int .i64 c.c, .int .i64 c.q, .string c.key, .string c.en, .string c.old, .string c.val]
    have hs : (w.alloc (.cells #[.int .i64 r, .int .i64 s] 26)).heap.size = w.heap.size + 1 := by simp
    rwa [hs] at h)
  have HX1 := hide (HX.out.below HK1.out)
  have HG5 := hide (Nat.le_refl w.heap.size)
  generalize (w.alloc (.cells #[.int .i64 r, .int .i64 s] 26)).alloc (.cells #[.int .i64 c.k, .int .i64 c.c, .int .i64 c.q, .string c.key, .string c.en, .string c.old, .string c.val] 29) = w1 at HK1 R5 R6 HX1 ⊢
  obtain ⟨g5, hg5⟩ : ∃ g, w.heap.size = g := ⟨_, rfl⟩
  have HE5 := hide hg5
  rw [hg5] at R5 R6 HG5 ⊢
  clear hg5 HG5
  obtain ⟨t, ht⟩ : ∃ t, mayN x.d r s c q = t := ⟨_, rfl⟩
  have HT := hide ht
  clear ht
  go_cut [42] (fun s42 wx => s42 = .bool (!t) ∧ Hid (Below w1.heap.size w1 wx))
  case first =>
    have HRI := hide (fun w => rrightI_any r s w)
    have HRC := hide (fun w => rright_to c.k c.c c.q c.key c.en c.old c.val w)
    obtain ⟨tr, htr⟩ : ∃ t, rightI r s = t := ⟨_, rfl⟩
    rw [htr] at HRI
    have HTR := hide htr
    clear htr
    cases tr
    case false =>
      have HB0 : Below w1.heap.size w1 w1 := kept_refl w1
      refine wp_region_sp (fun w' => Below w1.heap.size w1 w') (by kernel_rfl) (by kernel_rfl) (show Below w1.heap.size w1 w1.drew from kept_drewN HB0 1) ?_
      generalize hS : (fun w' => Below w1.heap.size w1 w') = S
      have l0 : ∀ z : Sp S, z.w.cell? ⟨g5, 0, none⟩ = some (.int .i64 r) := by subst hS; exact fun z => (R5.out.below z.ok R5.out.lt).cell 0
      have l1 : ∀ z : Sp S, z.w.cell? ⟨g5, 1, none⟩ = some (.int .i64 s) := by subst hS; exact fun z => (R5.out.below z.ok R5.out.lt).cell 1
      have l2 : ∀ z : Sp S, z.w.cell? ⟨g5 + 1, 0, none⟩ = some (.int .i64 c.k) := by subst hS; exact fun z => (R6.out.below z.ok R6.out.lt).cell 0
      have l3 : ∀ z : Sp S, z.w.cell? ⟨g5 + 1, 1, none⟩ = some (.int .i64 c.c) := by subst hS; exact fun z => (R6.out.below z.ok R6.out.lt).cell 1
      have l4 : ∀ z : Sp S, z.w.cell? ⟨g5 + 1, 2, none⟩ = some (.int .i64 c.q) := by subst hS; exact fun z => (R6.out.below z.ok R6.out.lt).cell 2
      have l5 : ∀ z : Sp S, z.w.cell? ⟨g5 + 1, 3, none⟩ = some (.string c.key) := by subst hS; exact fun z => (R6.out.below z.ok R6.out.lt).cell 3
      have l6 : ∀ z : Sp S, z.w.cell? ⟨g5 + 1, 4, none⟩ = some (.string c.en) := by subst hS; exact fun z => (R6.out.below z.ok R6.out.lt).cell 4
      have l7 : ∀ z : Sp S, z.w.cell? ⟨g5 + 1, 5, none⟩ = some (.string c.old) := by subst hS; exact fun z => (R6.out.below z.ok R6.out.lt).cell 5
      have l8 : ∀ z : Sp S, z.w.cell? ⟨g5 + 1, 6, none⟩ = some (.string c.val) := by subst hS; exact fun z => (R6.out.below z.ok R6.out.lt).cell 6
      have ne : Nonempty (Sp S) := by subst hS; exact ⟨⟨_, HB0⟩⟩
      have STEP := hide (show ∀ w w', S w → Below w.heap.size w w' → S w' by subst hS; exact fun _ _ h hb => kept_trans h hb)
      have OLD := hide (show ∀ z : Sp S, Below w1.heap.size w1 z.w by subst hS; exact fun z => z.ok)
      clear HB0 hS
      repeat (go_big_quiet_step ((first | (go_at_call 31; with_reducible exact sp_call STEP.out _ (HRI.out _)) | (go_at_call 32; with_reducible exact sp_call STEP.out _ (HRC.out _)))))
      refine wpQuiet_nil ?_
      intro kk
      have OK := hide (OLD.out kk)
      generalize kk.w = wk at OK ⊢
      clear l0 l1 l2 l3 l4 l5 l6 l7 l8 ne OLD STEP
      go_wp2
      go_meet
      exact ⟨by rw [← HT.out]; unfold mayN; rw [HTR.out]; rfl, OK⟩
    case true =>
      obtain ⟨r0, r7, s1, sm⟩ := rightI_is HTR.out
      obtain ⟨k, rfl⟩ : ∃ k : Nat, r = k := ⟨r.toNat, by omega⟩
      have hk7 : k < 7 := by omega
      have hk7i : (k : Int) < 7 := by omega
      have hk0i : (0 : Int) ≤ (k : Int) := by omega
      have hsm : decide ((1073741824 : Int) < s) = false := decide_eq_false (by omega)
      obtain ⟨D, hD⟩ : ∃ D, ix x.d k = D := ⟨_, rfl⟩
      have HD := hide (show ∀ wz, Below w1.heap.size w1 wz → wz.cell? ⟨g, 3 + k, none⟩ = some (.int .i64 D) from fun wz hz => by rw [(HX1.out.row.below hz HX1.out.row.lt).cell, ixC_cut _ _ _ _ (by rw [HLD.out]; exact hk7), hD])
      have HDD := hide hD
      clear hD
      obtain ⟨td, htd⟩ : ∃ t, decide (s ≤ D) = t := ⟨_, rfl⟩
      have HTD := hide htd
      obtain ⟨tc, htc⟩ : ∃ t, rightC ⟨c.k, c.c, c.q, c.key, c.en, c.old, c.val⟩ = t := ⟨_, rfl⟩
      rw [htc] at HRC
      have HTC := hide htc
      obtain ⟨t0, ht0⟩ : ∃ t, decide (q < 0) = t := ⟨_, rfl⟩
      have HT0 := hide ht0
      obtain ⟨tm, htm⟩ : ∃ t, decide (1099511627776 < q) = t := ⟨_, rfl⟩
      have HTM := hide htm
      have HSAY : Hid (t = (!td && (tc && (!t0 && !tm)))) := hide (by
        rw [← HT.out, ← HTD.out, ← HTC.out, ← HT0.out, ← HTM.out]
        unfold mayN
        rw [HTR.out, Int.toNat_natCast, HDD.out, Bool.true_and]
        congr 1
        · by_cases h : s ≤ D
          · rw [decide_eq_true h, decide_eq_false (by omega)]; rfl
          · rw [decide_eq_false h, decide_eq_true (by omega)]; rfl
        · congr 1
          congr 1
          · by_cases h : q < 0
            · rw [decide_eq_true h, decide_eq_false (by omega)]; rfl
            · rw [decide_eq_false h, decide_eq_true (by omega)]; rfl
          · by_cases h : 1099511627776 < q
            · rw [decide_eq_true h, decide_eq_false (by omega)]; rfl
            · rw [decide_eq_false h, decide_eq_true (by omega)]; rfl)
      clear htc
      cases td
      case false =>
        cases tc
        case false =>
          have HB0 : Below w1.heap.size w1 w1 := kept_refl w1
          refine wp_region_sp (fun w' => Below w1.heap.size w1 w') (by kernel_rfl) (by kernel_rfl) (show Below w1.heap.size w1 w1.drew from kept_drewN HB0 1) ?_
          generalize hS : (fun w' => Below w1.heap.size w1 w') = S
          have l0 : ∀ z : Sp S, z.w.cell? ⟨g5, 0, none⟩ = some (.int .i64 (k : Int)) := by subst hS; exact fun z => (R5.out.below z.ok R5.out.lt).cell 0
          have l1 : ∀ z : Sp S, z.w.cell? ⟨g5, 1, none⟩ = some (.int .i64 s) := by subst hS; exact fun z => (R5.out.below z.ok R5.out.lt).cell 1
          have l2 : ∀ z : Sp S, z.w.cell? ⟨g5 + 1, 0, none⟩ = some (.int .i64 c.k) := by subst hS; exact fun z => (R6.out.below z.ok R6.out.lt).cell 0
          have l3 : ∀ z : Sp S, z.w.cell? ⟨g5 + 1, 1, none⟩ = some (.int .i64 c.c) := by subst hS; exact fun z => (R6.out.below z.ok R6.out.lt).cell 1
          have l4 : ∀ z : Sp S, z.w.cell? ⟨g5 + 1, 2, none⟩ = some (.int .i64 c.q) := by subst hS; exact fun z => (R6.out.below z.ok R6.out.lt).cell 2
          have l5 : ∀ z : Sp S, z.w.cell? ⟨g5 + 1, 3, none⟩ = some (.string c.key) := by subst hS; exact fun z => (R6.out.below z.ok R6.out.lt).cell 3
          have l6 : ∀ z : Sp S, z.w.cell? ⟨g5 + 1, 4, none⟩ = some (.string c.en) := by subst hS; exact fun z => (R6.out.below z.ok R6.out.lt).cell 4
          have l7 : ∀ z : Sp S, z.w.cell? ⟨g5 + 1, 5, none⟩ = some (.string c.old) := by subst hS; exact fun z => (R6.out.below z.ok R6.out.lt).cell 5
          have l8 : ∀ z : Sp S, z.w.cell? ⟨g5 + 1, 6, none⟩ = some (.string c.val) := by subst hS; exact fun z => (R6.out.below z.ok R6.out.lt).cell 6
          have l9 : ∀ z : Sp S, z.w.cell? ⟨g, 3 + k, none⟩ = some (.int .i64 D) := by subst hS; exact fun z => (HD.out _ z.ok)
          have ne : Nonempty (Sp S) := by subst hS; exact ⟨⟨_, HB0⟩⟩
          have STEP := hide (show ∀ w w', S w → Below w.heap.size w w' → S w' by subst hS; exact fun _ _ h hb => kept_trans h hb)
          have OLD := hide (show ∀ z : Sp S, Below w1.heap.size w1 z.w by subst hS; exact fun z => z.ok)
          clear HB0 hS
          repeat (go_big_quiet_step ((first | (go_at_call 31; with_reducible exact sp_call STEP.out _ (HRI.out _)) | (go_at_call 32; with_reducible exact sp_call STEP.out _ (HRC.out _)))))
          refine wpQuiet_nil ?_
          intro kk
          have OK := hide (OLD.out kk)
          generalize kk.w = wk at OK ⊢
          clear l0 l1 l2 l3 l4 l5 l6 l7 l8 l9 ne OLD STEP
          go_wp2
          go_meet
          exact ⟨by rw [HSAY.out]; rfl, OK⟩
        case true =>
          cases t0
          case false =>
            cases tm
            case false =>
              have HB0 : Below w1.heap.size w1 w1 := kept_refl w1
              refine wp_region_sp (fun w' => Below w1.heap.size w1 w') (by kernel_rfl) (by kernel_rfl) (show Below w1.heap.size w1 w1.drew from kept_drewN HB0 1) ?_
              generalize hS : (fun w' => Below w1.heap.size w1 w') = S
              have l0 : ∀ z : Sp S, z.w.cell? ⟨g5, 0, none⟩ = some (.int .i64 (k : Int)) := by subst hS; exact fun z => (R5.out.below z.ok R5.out.lt).cell 0
              have l1 : ∀ z : Sp S, z.w.cell? ⟨g5, 1, none⟩ = some (.int .i64 s) := by subst hS; exact fun z => (R5.out.below z.ok R5.out.lt).cell 1
              have l2 : ∀ z : Sp S, z.w.cell? ⟨g5 + 1, 0, none⟩ = some (.int .i64 c.k) := by subst hS; exact fun z => (R6.out.below z.ok R6.out.lt).cell 0
              have l3 : ∀ z : Sp S, z.w.cell? ⟨g5 + 1, 1, none⟩ = some (.int .i64 c.c) := by subst hS; exact fun z => (R6.out.below z.ok R6.out.lt).cell 1
              have l4 : ∀ z : Sp S, z.w.cell? ⟨g5 + 1, 2, none⟩ = some (.int .i64 c.q) := by subst hS; exact fun z => (R6.out.below z.ok R6.out.lt).cell 2
              have l5 : ∀ z : Sp S, z.w.cell? ⟨g5 + 1, 3, none⟩ = some (.string c.key) := by subst hS; exact fun z => (R6.out.below z.ok R6.out.lt).cell 3
              have l6 : ∀ z : Sp S, z.w.cell? ⟨g5 + 1, 4, none⟩ = some (.string c.en) := by subst hS; exact fun z => (R6.out.below z.ok R6.out.lt).cell 4
              have l7 : ∀ z : Sp S, z.w.cell? ⟨g5 + 1, 5, none⟩ = some (.string c.old) := by subst hS; exact fun z => (R6.out.below z.ok R6.out.lt).cell 5
              have l8 : ∀ z : Sp S, z.w.cell? ⟨g5 + 1, 6, none⟩ = some (.string c.val) := by subst hS; exact fun z => (R6.out.below z.ok R6.out.lt).cell 6
              have l9 : ∀ z : Sp S, z.w.cell? ⟨g, 3 + k, none⟩ = some (.int .i64 D) := by subst hS; exact fun z => (HD.out _ z.ok)
              have ne : Nonempty (Sp S) := by subst hS; exact ⟨⟨_, HB0⟩⟩
              have STEP := hide (show ∀ w w', S w → Below w.heap.size w w' → S w' by subst hS; exact fun _ _ h hb => kept_trans h hb)
              have OLD := hide (show ∀ z : Sp S, Below w1.heap.size w1 z.w by subst hS; exact fun z => z.ok)
              clear HB0 hS
              repeat (go_big_quiet_step ((first | (go_at_call 31; with_reducible exact sp_call STEP.out _ (HRI.out _)) | (go_at_call 32; with_reducible exact sp_call STEP.out _ (HRC.out _)))))
              refine wpQuiet_nil ?_
              intro kk
              have OK := hide (OLD.out kk)
              generalize kk.w = wk at OK ⊢
              clear l0 l1 l2 l3 l4 l5 l6 l7 l8 l9 ne OLD STEP
              go_wp2
              go_meet
              exact ⟨by rw [HSAY.out]; rfl, OK⟩
            case true =>
              have HB0 : Below w1.heap.size w1 w1 := kept_refl w1
              refine wp_region_sp (fun w' => Below w1.heap.size w1 w') (by kernel_rfl) (by kernel_rfl) (show Below w1.heap.size w1 w1.drew from kept_drewN HB0 1) ?_
              generalize hS : (fun w' => Below w1.heap.size w1 w') = S
              have l0 : ∀ z : Sp S, z.w.cell? ⟨g5, 0, none⟩ = some (.int .i64 (k : Int)) := by subst hS; exact fun z => (R5.out.below z.ok R5.out.lt).cell 0
              have l1 : ∀ z : Sp S, z.w.cell? ⟨g5, 1, none⟩ = some (.int .i64 s) := by subst hS; exact fun z => (R5.out.below z.ok R5.out.lt).cell 1
              have l2 : ∀ z : Sp S, z.w.cell? ⟨g5 + 1, 0, none⟩ = some (.int .i64 c.k) := by subst hS; exact fun z => (R6.out.below z.ok R6.out.lt).cell 0
              have l3 : ∀ z : Sp S, z.w.cell? ⟨g5 + 1, 1, none⟩ = some (.int .i64 c.c) := by subst hS; exact fun z => (R6.out.below z.ok R6.out.lt).cell 1
              have l4 : ∀ z : Sp S, z.w.cell? ⟨g5 + 1, 2, none⟩ = some (.int .i64 c.q) := by subst hS; exact fun z => (R6.out.below z.ok R6.out.lt).cell 2
              have l5 : ∀ z : Sp S, z.w.cell? ⟨g5 + 1, 3, none⟩ = some (.string c.key) := by subst hS; exact fun z => (R6.out.below z.ok R6.out.lt).cell 3
              have l6 : ∀ z : Sp S, z.w.cell? ⟨g5 + 1, 4, none⟩ = some (.string c.en) := by subst hS; exact fun z => (R6.out.below z.ok R6.out.lt).cell 4
              have l7 : ∀ z : Sp S, z.w.cell? ⟨g5 + 1, 5, none⟩ = some (.string c.old) := by subst hS; exact fun z => (R6.out.below z.ok R6.out.lt).cell 5
              have l8 : ∀ z : Sp S, z.w.cell? ⟨g5 + 1, 6, none⟩ = some (.string c.val) := by subst hS; exact fun z => (R6.out.below z.ok R6.out.lt).cell 6
              have l9 : ∀ z : Sp S, z.w.cell? ⟨g, 3 + k, none⟩ = some (.int .i64 D) := by subst hS; exact fun z => (HD.out _ z.ok)
              have ne : Nonempty (Sp S) := by subst hS; exact ⟨⟨_, HB0⟩⟩
              have STEP := hide (show ∀ w w', S w → Below w.heap.size w w' → S w' by subst hS; exact fun _ _ h hb => kept_trans h hb)
              have OLD := hide (show ∀ z : Sp S, Below w1.heap.size w1 z.w by subst hS; exact fun z => z.ok)
              clear HB0 hS
              repeat (go_big_quiet_step ((first | (go_at_call 31; with_reducible exact sp_call STEP.out _ (HRI.out _)) | (go_at_call 32; with_reducible exact sp_call STEP.out _ (HRC.out _)))))
              refine wpQuiet_nil ?_
              intro kk
              have OK := hide (OLD.out kk)
              generalize kk.w = wk at OK ⊢
              clear l0 l1 l2 l3 l4 l5 l6 l7 l8 l9 ne OLD STEP
              go_wp2
              go_meet
              exact ⟨by rw [HSAY.out]; rfl, OK⟩
          case true =>
            have HB0 : Below w1.heap.size w1 w1 := kept_refl w1
            refine wp_region_sp (fun w' => Below w1.heap.size w1 w') (by kernel_rfl) (by kernel_rfl) (show Below w1.heap.size w1 w1.drew from kept_drewN HB0 1) ?_
            generalize hS : (fun w' => Below w1.heap.size w1 w') = S
            have l0 : ∀ z : Sp S, z.w.cell? ⟨g5, 0, none⟩ = some (.int .i64 (k : Int)) := by subst hS; exact fun z => (R5.out.below z.ok R5.out.lt).cell 0
            have l1 : ∀ z : Sp S, z.w.cell? ⟨g5, 1, none⟩ = some (.int .i64 s) := by subst hS; exact fun z => (R5.out.below z.ok R5.out.lt).cell 1
            have l2 : ∀ z : Sp S, z.w.cell? ⟨g5 + 1, 0, none⟩ = some (.int .i64 c.k) := by subst hS; exact fun z => (R6.out.below z.ok R6.out.lt).cell 0
            have l3 : ∀ z : Sp S, z.w.cell? ⟨g5 + 1, 1, none⟩ = some (.int .i64 c.c) := by subst hS; exact fun z => (R6.out.below z.ok R6.out.lt).cell 1
            have l4 : ∀ z : Sp S, z.w.cell? ⟨g5 + 1, 2, none⟩ = some (.int .i64 c.q) := by subst hS; exact fun z => (R6.out.below z.ok R6.out.lt).cell 2
            have l5 : ∀ z : Sp S, z.w.cell? ⟨g5 + 1, 3, none⟩ = some (.string c.key) := by subst hS; exact fun z => (R6.out.below z.ok R6.out.lt).cell 3
            have l6 : ∀ z : Sp S, z.w.cell? ⟨g5 + 1, 4, none⟩ = some (.string c.en) := by subst hS; exact fun z => (R6.out.below z.ok R6.out.lt).cell 4
            have l7 : ∀ z : Sp S, z.w.cell? ⟨g5 + 1, 5, none⟩ = some (.string c.old) := by subst hS; exact fun z => (R6.out.below z.ok R6.out.lt).cell 5
            have l8 : ∀ z : Sp S, z.w.cell? ⟨g5 + 1, 6, none⟩ = some (.string c.val) := by subst hS; exact fun z => (R6.out.below z.ok R6.out.lt).cell 6
            have l9 : ∀ z : Sp S, z.w.cell? ⟨g, 3 + k, none⟩ = some (.int .i64 D) := by subst hS; exact fun z => (HD.out _ z.ok)
            have ne : Nonempty (Sp S) := by subst hS; exact ⟨⟨_, HB0⟩⟩
            have STEP := hide (show ∀ w w', S w → Below w.heap.size w w' → S w' by subst hS; exact fun _ _ h hb => kept_trans h hb)
            have OLD := hide (show ∀ z : Sp S, Below w1.heap.size w1 z.w by subst hS; exact fun z => z.ok)
            clear HB0 hS
            repeat (go_big_quiet_step ((first | (go_at_call 31; with_reducible exact sp_call STEP.out _ (HRI.out _)) | (go_at_call 32; with_reducible exact sp_call STEP.out _ (HRC.out _)))))
            refine wpQuiet_nil ?_
            intro kk
            have OK := hide (OLD.out kk)
            generalize kk.w = wk at OK ⊢
            clear l0 l1 l2 l3 l4 l5 l6 l7 l8 l9 ne OLD STEP
            go_wp2
            go_meet
            exact ⟨by rw [HSAY.out]; rfl, OK⟩
      case true =>
        have HB0 : Below w1.heap.size w1 w1 := kept_refl w1
        refine wp_region_sp (fun w' => Below w1.heap.size w1 w') (by kernel_rfl) (by kernel_rfl) (show Below w1.heap.size w1 w1.drew from kept_drewN HB0 1) ?_
        generalize hS : (fun w' => Below w1.heap.size w1 w') = S
        have l0 : ∀ z : Sp S, z.w.cell? ⟨g5, 0, none⟩ = some (.int .i64 (k : Int)) := by subst hS; exact fun z => (R5.out.below z.ok R5.out.lt).cell 0
        have l1 : ∀ z : Sp S, z.w.cell? ⟨g5, 1, none⟩ = some (.int .i64 s) := by subst hS; exact fun z => (R5.out.below z.ok R5.out.lt).cell 1
        have l2 : ∀ z : Sp S, z.w.cell? ⟨g5 + 1, 0, none⟩ = some (.int .i64 c.k) := by subst hS; exact fun z => (R6.out.below z.ok R6.out.lt).cell 0
        have l3 : ∀ z : Sp S, z.w.cell? ⟨g5 + 1, 1, none⟩ = some (.int .i64 c.c) := by subst hS; exact fun z => (R6.out.below z.ok R6.out.lt).cell 1
        have l4 : ∀ z : Sp S, z.w.cell? ⟨g5 + 1, 2, none⟩ = some (.int .i64 c.q) := by subst hS; exact fun z => (R6.out.below z.ok R6.out.lt).cell 2
        have l5 : ∀ z : Sp S, z.w.cell? ⟨g5 + 1, 3, none⟩ = some (.string c.key) := by subst hS; exact fun z => (R6.out.below z.ok R6.out.lt).cell 3
        have l6 : ∀ z : Sp S, z.w.cell? ⟨g5 + 1, 4, none⟩ = some (.string c.en) := by subst hS; exact fun z => (R6.out.below z.ok R6.out.lt).cell 4
        have l7 : ∀ z : Sp S, z.w.cell? ⟨g5 + 1, 5, none⟩ = some (.string c.old) := by subst hS; exact fun z => (R6.out.below z.ok R6.out.lt).cell 5
        have l8 : ∀ z : Sp S, z.w.cell? ⟨g5 + 1, 6, none⟩ = some (.string c.val) := by subst hS; exact fun z => (R6.out.below z.ok R6.out.lt).cell 6
        have l9 : ∀ z : Sp S, z.w.cell? ⟨g, 3 + k, none⟩ = some (.int .i64 D) := by subst hS; exact fun z => (HD.out _ z.ok)
        have ne : Nonempty (Sp S) := by subst hS; exact ⟨⟨_, HB0⟩⟩
        have STEP := hide (show ∀ w w', S w → Below w.heap.size w w' → S w' by subst hS; exact fun _ _ h hb => kept_trans h hb)
        have OLD := hide (show ∀ z : Sp S, Below w1.heap.size w1 z.w by subst hS; exact fun z => z.ok)
        clear HB0 hS
        repeat (go_big_quiet_step ((first | (go_at_call 31; with_reducible exact sp_call STEP.out _ (HRI.out _)) | (go_at_call 32; with_reducible exact sp_call STEP.out _ (HRC.out _)))))
        refine wpQuiet_nil ?_
        intro kk
        have OK := hide (OLD.out kk)
        generalize kk.w = wk at OK ⊢
        clear l0 l1 l2 l3 l4 l5 l6 l7 l8 l9 ne OLD STEP
        go_wp2
        go_meet
        exact ⟨by rw [HSAY.out]; rfl, OK⟩
  case rest =>
    obtain ⟨rfl, HBC⟩ := hcut
    obtain ⟨w2, hw2⟩ : ∃ z, z = wc := ⟨_, rfl⟩
    subst hw2
    have HX2 := hide (HX1.out.below HBC.out)
    have R52 := hide (R5.out.below HBC.out R5.out.lt)
    have R62 := hide (R6.out.below HBC.out R6.out.lt)
    have HK2 := hide (kept_trans HK1.out HBC.out)
    clear HX1 R5 R6 HK1 HBC HX
    cases t
    case false =>
      try simp only [Bool.not_false]
      go_wp2
      go_ret
      exact ⟨by rw [HT.out]; rfl, _, _, _, by rw [note_not HT.out]; exact HX2.out, .of_below HK2.out⟩
    case true =>
      try simp only [Bool.not_true]
      go_wp2
      go_loopw [9] (fun i wr => ∃ j : Nat, j ≤ n ∧ i = .int .i64 j ∧ Hid (Below w2.heap.size w2 wr) ∧ Hid (∀ e, e ∈ x.k.take j → e.at_ r s = false)) (fun i _ => n - (intOf i).toNat)
      case atStart => exact ⟨0, by omega, rfl, hide (kept_refl _), hide (fun e he => by cases he)⟩
      case round =>
        obtain ⟨j, hj, rfl, HBR, HNO⟩ := hrel
        have hld7 : x.d.length = 7 := HLD.out
        have HX3 := hide (HX2.out.below HBR.out)
        have R53 := hide (R52.out.below HBR.out R52.out.lt)
        have R63 := hide (R62.out.below HBR.out R62.out.lt)
        have HK3 := hide (kept_trans HK2.out HBR.out)
        obtain ⟨i0, i1⟩ := R53.out.two
        have x0 : wr.cell? ⟨g, 0, none⟩ = some (.slice A n a) := HX3.out.row.cell 0
        by_cases hjn : j < n
        · obtain ⟨e, he⟩ : ∃ e, x.k[j]? = some e := ⟨_, List.getElem?_eq_getElem (by rw [HNN.out]; exact hjn)⟩
          obtain ⟨gL, gC, gS, rfl, rfl, rfl, ⟨l0, l1⟩, hcm, q0⟩ := HX3.out.at_ he
          have HCM := hide hcm
          have HE := hide he
          have heq := fun w => eql_inst e.r e.s r s w
          obtain ⟨t2, ht2⟩ : ∃ t, e.at_ r s = t := ⟨_, rfl⟩
          have HT2 := hide ht2
          unfold En.at_ at ht2
          rw [ht2] at heq
          have hjn' : (j : Int) < (n : Int) := by omega
          clear hcm he ht2 q0
          go_wp2
          go_quiet (fail)
          have HBN := hide (kept_drewN (kept_refl wr) nq)
          generalize wr.drewN nq = wy at HBN ⊢
          cases t2
          case false =>
            go_wp2
            go_roundw
            case rel => exact ⟨j + 1, by omega, by go_num, hide (kept_trans HBR.out HBN.out), hide (fun f hf => by
              rw [List.take_add_one, HE.out] at hf
              rcases List.mem_append.1 hf with hf | hf
              · exact HNO.out f hf
              · have := List.mem_singleton.1 hf
                rw [this]
                exact HT2.out)⟩
            case measure => simp [intOf]; omega
          case true =>
            have HX4 := hide (HX3.out.below HBN.out)
            have R64 := hide (R63.out.below HBN.out R63.out.lt)
            have HK4 := hide (kept_trans HK3.out HBN.out)
            go_upto_region 7 with (fail)
            refine wp_region_noPanic ?_
            refine wp_region_U 15 (fun w' => Row w' g 46 (ixC (.slice (some ⟨gL, 0, none⟩) n a) (.slice (some ⟨gC, 0, none⟩) n b) (.slice (some ⟨gS, 0, none⟩) n cc) x.d) ∧ Row w' (g5 + 1) 29 #[.int .i64 c.k, .int .i64 c.c, .int .i64 c.q, .string c.key, .string c.en, .string c.old, .string c.val]) (by kernel_rfl) ?_
            have HD := hide (show Rx base (World.drew wy) g (.slice (some ⟨gL, 0, none⟩) n a) (.slice (some ⟨gC, 0, none⟩) n b) (.slice (some ⟨gS, 0, none⟩) n cc) x ∧ Row (World.drew wy) (g5 + 1) 29 #[.int .i64 c.k, .int .i64 c.c, .int .i64 c.q, .string c.key, .string c.en, .string c.old, .string c.val] ∧ Below w.heap.size w (World.drew wy) from ⟨HX4.out.below (kept_drewN (kept_refl wy) 1), R64.out.below (kept_drewN (kept_refl wy) 1) R64.out.lt, kept_trans HK4.out (kept_drewN (kept_refl wy) 1)⟩)
            have HNC : Hid (some (g5 + 1) ≠ some gC) := hide (fun e => by have h1 : g5 + 1 = gC := Option.some.inj e; have h2 := HCL.out gC rfl; have h3 := HE5.out; omega)
            clear l0 l1 i0 i1 x0 heq
            generalize World.drew _ = wd at HD ⊢
            refine anyU_take (i := 0) (v := ?ov0b) (by simp only [List.getElem?_toArray, List.getElem?_cons_zero]; exact rfl) (by kernel_rfl) (by kernel_rfl) (by kernel_rfl) (fun _ _ _ h => h) (by kernel_rfl) (by kernel_rfl) (by kernel_rfl) (Or.inl ⟨by rfl, ?oy0b⟩) (by with_reducible exact ⟨HD.out.1.row, HD.out.2.1⟩) ?or0b
            case oy0b => (intro w hSw; skip; go_simp; try with_reducible rfl)
            try simp only [Act.put, List.setIfInBounds_toArray, List.set_cons_zero, List.set_cons_succ]
            refine anyU_take (i := 1) (v := ?ov1b) (by simp only [List.getElem?_toArray, List.getElem?_cons_succ, List.getElem?_cons_zero]; exact rfl) (by kernel_rfl) (by kernel_rfl) (by kernel_rfl) (fun _ _ _ h => h) (by kernel_rfl) (by kernel_rfl) (by kernel_rfl) (Or.inl ⟨by rfl, ?oy1b⟩) (by with_reducible exact ⟨HD.out.1.row, HD.out.2.1⟩) ?or1b
            case oy1b => (intro w hSw; skip; go_simp; try with_reducible rfl)
            try simp only [Act.put, List.setIfInBounds_toArray, List.set_cons_zero, List.set_cons_succ]
            refine anyU_take (i := 2) (v := ?ov2b) (by simp only [List.getElem?_toArray, List.getElem?_cons_succ, List.getElem?_cons_zero]; exact rfl) (by kernel_rfl) (by kernel_rfl) (by kernel_rfl) (fun _ _ _ h => h) (by kernel_rfl) (by kernel_rfl) (by kernel_rfl) (Or.inl ⟨by rfl, ?oy2b⟩) (by with_reducible exact ⟨HD.out.1.row, HD.out.2.1⟩) ?or2b
            case oy2b => (intro w hSw; skip; go_simp; try with_reducible rfl)
            try simp only [Act.put, List.setIfInBounds_toArray, List.set_cons_zero, List.set_cons_succ]
            refine anyU_take (i := 3) (v := ?ov3b) (by simp only [List.getElem?_toArray, List.getElem?_cons_succ, List.getElem?_cons_zero]; exact rfl) (by kernel_rfl) (by kernel_rfl) (by kernel_rfl) (fun _ _ _ h => h) (by kernel_rfl) (by kernel_rfl) (by kernel_rfl) (Or.inl ⟨by rfl, ?oy3b⟩) (by with_reducible exact ⟨HD.out.1.row, HD.out.2.1⟩) ?or3b
            case oy3b => (intro w hSw; have x1 := show w.cell? ⟨g, 1, none⟩ = some (.slice (some ⟨gC, 0, none⟩) n b) from Row.cell hSw.1 1; go_simp; try with_reducible rfl)
            try simp only [Act.put, List.setIfInBounds_toArray, List.set_cons_zero, List.set_cons_succ]
            refine anyU_take (i := 4) (v := ?ov4b) (by simp only [List.getElem?_toArray, List.getElem?_cons_succ, List.getElem?_cons_zero]; exact rfl) (by kernel_rfl) (by kernel_rfl) (by kernel_rfl) (fun _ _ _ h => h) (by kernel_rfl) (by kernel_rfl) (by kernel_rfl) (Or.inl ⟨by rfl, ?oy4b⟩) (by with_reducible exact ⟨HD.out.1.row, HD.out.2.1⟩) ?or4b
            case oy4b => (intro w hSw; skip; go_simp; try with_reducible rfl)
            try simp only [Act.put, List.setIfInBounds_toArray, List.set_cons_zero, List.set_cons_succ]
            refine anyU_take (i := 5) (v := ?ov5b) (by simp only [List.getElem?_toArray, List.getElem?_cons_succ, List.getElem?_cons_zero]; exact rfl) (by kernel_rfl) (by kernel_rfl) (by kernel_rfl) (fun _ _ _ h => h) (by kernel_rfl) (by kernel_rfl) (by kernel_rfl) (Or.inl ⟨by rfl, ?oy5b⟩) (by with_reducible exact ⟨HD.out.1.row, HD.out.2.1⟩) ?or5b
            case oy5b => (intro w hSw; skip; go_simp; try with_reducible rfl)
            try simp only [Act.put, List.setIfInBounds_toArray, List.set_cons_zero, List.set_cons_succ]
            refine anyU_take (i := 6) (v := ?ov6b) (by simp only [List.getElem?_toArray, List.getElem?_cons_succ, List.getElem?_cons_zero]; exact rfl) (by kernel_rfl) (by kernel_rfl) (by kernel_rfl) (fun _ _ _ h => h) (by kernel_rfl) (by kernel_rfl) (by kernel_rfl) (Or.inl ⟨by rfl, ?oy6b⟩) (by with_reducible exact ⟨HD.out.1.row, HD.out.2.1⟩) ?or6b
            case oy6b => (intro w hSw; skip; go_simp; try with_reducible rfl)
            try simp only [Act.put, List.setIfInBounds_toArray, List.set_cons_zero, List.set_cons_succ]
            refine anyU_take (i := 7) (v := ?ov7b) (by simp only [List.getElem?_toArray, List.getElem?_cons_succ, List.getElem?_cons_zero]; exact rfl) (by kernel_rfl) (by kernel_rfl) (by kernel_rfl) (fun _ _ _ h => h) (by kernel_rfl) (by kernel_rfl) (by kernel_rfl) (Or.inl ⟨by rfl, ?oy7b⟩) (by with_reducible exact ⟨HD.out.1.row, HD.out.2.1⟩) ?or7b
            case oy7b => (intro w hSw; skip; go_simp; try with_reducible rfl)
            try simp only [Act.put, List.setIfInBounds_toArray, List.set_cons_zero, List.set_cons_succ]
            refine anyU_take (i := 8) (v := ?ov8b) (by simp only [List.getElem?_toArray, List.getElem?_cons_succ, List.getElem?_cons_zero]; exact rfl) (by kernel_rfl) (by kernel_rfl) (by kernel_rfl) (fun _ _ _ h => h) (by kernel_rfl) (by kernel_rfl) (by kernel_rfl) (Or.inl ⟨by rfl, ?oy8b⟩) (by with_reducible exact ⟨HD.out.1.row, HD.out.2.1⟩) ?or8b
            case oy8b => (intro w hSw; have x2 := show w.cell? ⟨g, 2, none⟩ = some (.slice (some ⟨gS, 0, none⟩) n cc) from Row.cell hSw.1 2; go_simp; try with_reducible rfl)
            try simp only [Act.put, List.setIfInBounds_toArray, List.set_cons_zero, List.set_cons_succ]
            refine anyU_take (i := 9) (v := ?ov9b) (by simp only [List.getElem?_toArray, List.getElem?_cons_succ, List.getElem?_cons_zero]; exact rfl) (by kernel_rfl) (by kernel_rfl) (by kernel_rfl) (fun _ _ _ h => h) (by kernel_rfl) (by kernel_rfl) (by kernel_rfl) (Or.inl ⟨by rfl, ?oy9b⟩) (by with_reducible exact ⟨HD.out.1.row, HD.out.2.1⟩) ?or9b
            case oy9b => (intro w hSw; skip; go_simp; try with_reducible rfl)
            try simp only [Act.put, List.setIfInBounds_toArray, List.set_cons_zero, List.set_cons_succ]
            refine anyU_take (i := 10) (v := ?ov10b) (by simp only [List.getElem?_toArray, List.getElem?_cons_succ, List.getElem?_cons_zero]; exact rfl) (by kernel_rfl) (by kernel_rfl) (by kernel_rfl) (fun _ _ _ h => h) (by kernel_rfl) (by kernel_rfl) (by kernel_rfl) (Or.inl ⟨by rfl, ?oy10b⟩) (by with_reducible exact ⟨HD.out.1.row, HD.out.2.1⟩) ?or10b
            case oy10b => (intro w hSw; obtain ⟨a0, a1, a2, a3, a4, a5, a6⟩ := (seven_of (x := c) hSw.2).cells; go_simp; try with_reducible rfl)
            try simp only [Act.put, List.setIfInBounds_toArray, List.set_cons_zero, List.set_cons_succ]
            refine anyU_take (i := 11) (v := ?ov11b) (by simp only [List.getElem?_toArray, List.getElem?_cons_succ, List.getElem?_cons_zero]; exact rfl) (by kernel_rfl) (by kernel_rfl) (by kernel_rfl) (fun _ _ _ h => h) (by kernel_rfl) (by kernel_rfl) (by kernel_rfl) (Or.inl ⟨by rfl, ?oy11b⟩) (by with_reducible exact ⟨HD.out.1.row, HD.out.2.1⟩) ?or11b
            case oy11b => (intro w hSw; skip; go_simp; try with_reducible rfl)
            try simp only [Act.put, List.setIfInBounds_toArray, List.set_cons_zero, List.set_cons_succ]
            refine anyU_take (i := 12) (v := ?ov12b) (by simp only [List.getElem?_toArray, List.getElem?_cons_succ, List.getElem?_cons_zero]; exact rfl) (by kernel_rfl) (by kernel_rfl) (by kernel_rfl) (fun _ _ _ h => h) (by kernel_rfl) (by kernel_rfl) (by kernel_rfl) (Or.inl ⟨by rfl, ?oy12b⟩) (by with_reducible exact ⟨HD.out.1.row, HD.out.2.1⟩) ?or12b
            case oy12b => (intro w hSw; skip; go_simp; try with_reducible rfl)
            try simp only [Act.put, List.setIfInBounds_toArray, List.set_cons_zero, List.set_cons_succ]
            refine anyU_one (i := 13) (by kernel_rfl) (by simp only [List.getElem?_toArray, List.getElem?_cons_succ, List.getElem?_cons_zero]; exact rfl) (fun K hK => ?_)
            refine step_store_rw (y := c.l) j (by rfl) (by rfl) rfl rfl HD.out.1.rc (csV_all _) (by rw [csV_len, HNN.out]; exact hjn) rfl (fun u hu => by unfold Cm.l at hu; simp at hu; rcases hu with rfl | rfl | rfl | rfl | rfl | rfl | rfl <;> rfl) (by kernel_rfl) ?_
            intro wf hf1 hf2
            have HF := hide (show Row wf g 46 (ixC (.slice (some ⟨gL, 0, none⟩) n a) (.slice (some ⟨gC, 0, none⟩) n b) (.slice (some ⟨gS, 0, none⟩) n cc) x.d) ∧ Row wf (g5 + 1) 29 #[.int .i64 c.k, .int .i64 c.c, .int .i64 c.q, .string c.key, .string c.en, .string c.old, .string c.val] from ⟨HD.out.1.row.grown hf2 (rw_off HD.out.1.rc HD.out.1.row (by decide)), HD.out.2.1.grown hf2 HNC.out⟩)
            have HFC := hide hf1
            have HFL := hide (HD.out.1.rl.grown (u := .slice (some ⟨gC, 0, none⟩) n b) hf2 (rw_ap HD.out.1.rc HD.out.1.rl (by decide)))
            have HFS := hide (HD.out.1.rs.grown (u := .slice (some ⟨gC, 0, none⟩) n b) hf2 (rw_ap HD.out.1.rc HD.out.1.rs (by decide)))
            have HFG := hide hf2
            clear hf1 hf2
            refine hK.out _ _ (fun e _ => HF.out) ?_
            clear hK K
            try simp only [Act.put]
            refine anyU_take (i := 14) (v := ?ov14b) (by simp only [List.getElem?_toArray, List.getElem?_cons_succ, List.getElem?_cons_zero]; exact rfl) (by kernel_rfl) (by kernel_rfl) (by kernel_rfl) (fun _ _ _ h => h) (by kernel_rfl) (by kernel_rfl) (by kernel_rfl) (Or.inl ⟨by rfl, ?oy14b⟩) (by with_reducible exact HF.out) ?or14b
            case oy14b => (intro w hSw; skip; go_simp; try with_reducible rfl)
            try simp only [Act.put, List.setIfInBounds_toArray, List.set_cons_zero, List.set_cons_succ]
            refine anyU_one (i := 15) (by kernel_rfl) (by simp only [List.getElem?_toArray, List.getElem?_cons_succ, List.getElem?_cons_zero]; exact rfl) (fun K hK => ?_)
            refine step_store_rw (y := [.int .i64 q]) j (by rfl) (by rfl) (Nat.mul_one j).symm rfl HFS.out (qsV_all _) (by rw [qsV_len, HNN.out]; exact hjn) rfl (fun u hu => by simp at hu; subst hu; rfl) (by kernel_rfl) ?_
            intro wh hh1 hh2
            refine hK.out _ _ (fun e _ => absurd rfl e) ?_
            clear hK K
            try simp only [Act.put]
            refine anyU_done (by kernel_rfl) ?_
            refine NoPanic.normal ?_
            try simp only [Act.put]
            have HW1 := hide hh1
            have HW2 := hide hh2
            clear hh1 hh2
            have HKQ : Hid (Kq (rxO g (.slice (some ⟨gL, 0, none⟩) n a) (.slice (some ⟨gC, 0, none⟩) n b) (.slice (some ⟨gS, 0, none⟩) n cc)) w wh) := hide (((Kq.of_below HD.out.2.2).trans (Kq.grown (o := rxO g (.slice (some ⟨gL, 0, none⟩) n a) (.slice (some ⟨gC, 0, none⟩) n b) (.slice (some ⟨gS, 0, none⟩) n cc)) HFG.out (fun k e => .inr (.inr (.inl (by cases e; rfl))))) (fun k _ h => h)).trans (Kq.grown (o := rxO g (.slice (some ⟨gL, 0, none⟩) n a) (.slice (some ⟨gC, 0, none⟩) n b) (.slice (some ⟨gS, 0, none⟩) n cc)) HW2.out (fun k e => .inr (.inr (.inr (by cases e; rfl))))) (fun k _ h => h))
            have HRX : Hid (Rx base wh g (.slice (some ⟨gL, 0, none⟩) n a) (.slice (some ⟨gC, 0, none⟩) n b) (.slice (some ⟨gS, 0, none⟩) n cc) (noteX x r s c q)) := hide (by
              rw [note_may HT.out, putK_at HN.out HE.out HT2.out]
              have hg : some g ≠ some gS := rw_off HD.out.1.rs HD.out.1.row (by decide)
              refine ⟨HF.out.1.grown HW2.out hg, ?_, ?_, ?_, HD.out.1.d7⟩
              · show Rw base 26 2 wh _ (isV (x.k.set j ⟨r, s, c, q⟩))
                rw [isV_set]
                have hes : ([Value.int .i64 r, .int .i64 s] : List Value) = [.int .i64 e.r, .int .i64 e.s] := by have h := at_iff.1 HT2.out; unfold En.key at h; rw [← (Prod.mk.injEq ..).mp h |>.1, ← (Prod.mk.injEq ..).mp h |>.2]
                show Rw base 26 2 wh _ ((isV x.k).set j [.int .i64 r, .int .i64 s])
                rw [hes, set_same (by unfold isV; rw [List.getElem?_map, HE.out]; rfl)]
                exact HFL.out.grown (u := .slice (some ⟨gS, 0, none⟩) n cc) HW2.out (rw_ap HD.out.1.rs HD.out.1.rl (by decide))
              · show Rw base 29 7 wh _ (csV (x.k.set j ⟨r, s, c, q⟩))
                rw [csV_set]
                exact HFC.out.grown (u := .slice (some ⟨gS, 0, none⟩) n cc) HW2.out (rw_ap HD.out.1.rs HD.out.1.rc (by decide))
              · show Rw base 3 1 wh _ (qsV (x.k.set j ⟨r, s, c, q⟩))
                rw [qsV_set]
                exact HW1.out)
            clear HD HF HFC HFL HFS HFG HW1 HW2
            go_wp2
            go_ret
            exact ⟨by rw [HT.out]; rfl, _, _, _, HRX.out, HKQ.out⟩
        · obtain rfl : j = n := by omega
          have hnl : ¬ ((j : Int) < (j : Int)) := by omega
          rw [List.take_of_length_le (by rw [HNN.out]; exact Nat.le_refl _)] at HNO
          go_upto_region 9 with (fail)
          refine wp_region_noPanic ?_
          refine wp_region_U 26 (fun w' => Row w' g 46 (ixC (.slice A j a) (.slice B j b) (.slice C j cc) x.d) ∧ Row w' g5 26 #[.int .i64 r, .int .i64 s] ∧ Row w' (g5 + 1) 29 #[.int .i64 c.k, .int .i64 c.c, .int .i64 c.q, .string c.key, .string c.en, .string c.old, .string c.val]) (by kernel_rfl) ?_
          have HD := hide (show Rx base (World.drew wr) g (.slice A j a) (.slice B j b) (.slice C j cc) x ∧ Row (World.drew wr) g5 26 #[.int .i64 r, .int .i64 s] ∧ Row (World.drew wr) (g5 + 1) 29 #[.int .i64 c.k, .int .i64 c.c, .int .i64 c.q, .string c.key, .string c.en, .string c.old, .string c.val] ∧ Below w.heap.size w (World.drew wr) from ⟨HX3.out.below (kept_drewN (kept_refl wr) 1), R53.out.below (kept_drewN (kept_refl wr) 1) R53.out.lt, R63.out.below (kept_drewN (kept_refl wr) 1) R63.out.lt, kept_trans HK3.out (kept_drewN (kept_refl wr) 1)⟩)
          clear i0 i1 x0
          generalize World.drew _ = wd at HD ⊢
          have HS := hide (show Row wd g 46 (ixC (.slice A j a) (.slice B j b) (.slice C j cc) x.d) ∧ Row wd g5 26 #[.int .i64 r, .int .i64 s] ∧ Row wd (g5 + 1) 29 #[.int .i64 c.k, .int .i64 c.c, .int .i64 c.q, .string c.key, .string c.en, .string c.old, .string c.val] from ⟨HD.out.1.row, HD.out.2.1, HD.out.2.2.1⟩)
          refine anyU_pure (i := 0) (v := ?ov0d) (by simp only [List.getElem?_toArray, List.getElem?_cons_zero]; exact rfl) (by kernel_rfl) (by kernel_rfl) (fun _ _ _ h => h) (fun _ => by with_reducible exact HS.out) (by kernel_rfl) (by kernel_rfl) (Or.inl ⟨by rfl, ?oy0d⟩) ?or0d
          case oy0d => (intro w hSw; go_simp; try with_reducible rfl)
          try simp only [Act.put, List.setIfInBounds_toArray, List.set_cons_zero, List.set_cons_succ]
          refine anyU_pure (i := 1) (v := ?ov1d) (by simp only [List.getElem?_toArray, List.getElem?_cons_succ, List.getElem?_cons_zero]; exact rfl) (by kernel_rfl) (by kernel_rfl) (fun _ _ _ h => h) (fun _ => by with_reducible exact HS.out) (by kernel_rfl) (by kernel_rfl) (Or.inl ⟨by rfl, ?oy1d⟩) ?or1d
          case oy1d => (intro w hSw; go_simp; try with_reducible rfl)
          try simp only [Act.put, List.setIfInBounds_toArray, List.set_cons_zero, List.set_cons_succ]
          refine anyU_pure (i := 2) (v := ?ov2d) (by simp only [List.getElem?_toArray, List.getElem?_cons_succ, List.getElem?_cons_zero]; exact rfl) (by kernel_rfl) (by kernel_rfl) (fun _ _ _ h => h) (fun _ => by with_reducible exact HS.out) (by kernel_rfl) (by kernel_rfl) (Or.inl ⟨by rfl, ?oy2d⟩) ?or2d
          case oy2d => (intro w hSw; go_simp; try with_reducible rfl)
          try simp only [Act.put, List.setIfInBounds_toArray, List.set_cons_zero, List.set_cons_succ]
          refine anyU_pure (i := 3) (v := ?ov3d) (by simp only [List.getElem?_toArray, List.getElem?_cons_succ, List.getElem?_cons_zero]; exact rfl) (by kernel_rfl) (by kernel_rfl) (fun _ _ _ h => h) (fun _ => by with_reducible exact HS.out) (by kernel_rfl) (by kernel_rfl) (Or.inl ⟨by rfl, ?oy3d⟩) ?or3d
          case oy3d => (intro w hSw; go_simp; try with_reducible rfl)
          try simp only [Act.put, List.setIfInBounds_toArray, List.set_cons_zero, List.set_cons_succ]
          refine anyU_pure (i := 4) (v := ?ov4d) (by simp only [List.getElem?_toArray, List.getElem?_cons_succ, List.getElem?_cons_zero]; exact rfl) (by kernel_rfl) (by kernel_rfl) (fun _ _ _ h => h) (fun _ => by with_reducible exact HS.out) (by kernel_rfl) (by kernel_rfl) (Or.inl ⟨by rfl, ?oy4d⟩) ?or4d
          case oy4d => (intro w hSw; go_simp; try with_reducible rfl)
          try simp only [Act.put, List.setIfInBounds_toArray, List.set_cons_zero, List.set_cons_succ]
          refine anyU_pure (i := 5) (v := ?ov5d) (by simp only [List.getElem?_toArray, List.getElem?_cons_succ, List.getElem?_cons_zero]; exact rfl) (by kernel_rfl) (by kernel_rfl) (fun _ _ _ h => h) (fun _ => by with_reducible exact HS.out) (by kernel_rfl) (by kernel_rfl) (Or.inl ⟨by rfl, ?oy5d⟩) ?or5d
          case oy5d => (intro w hSw; go_simp; try with_reducible rfl)
          try simp only [Act.put, List.setIfInBounds_toArray, List.set_cons_zero, List.set_cons_succ]
          refine anyU_take2 (i := 6) (v := ?ov6d) (by simp only [List.getElem?_toArray, List.getElem?_cons_succ, List.getElem?_cons_zero]; exact rfl) (by kernel_rfl) 4 (by kernel_rfl) (by kernel_rfl) (fun _ _ _ h => h) (by kernel_rfl) (by kernel_rfl) (by kernel_rfl) (by kernel_rfl) (Or.inl ⟨by rfl, ?oy6d⟩) (by with_reducible exact HS.out) ?or6d
          case oy6d => (intro w hSw; have x0 := show w.cell? ⟨g, 0, none⟩ = some (.slice A j a) from Row.cell hSw.1 0; go_simp; try with_reducible rfl)
          try simp only [Act.put, List.setIfInBounds_toArray, List.set_cons_zero, List.set_cons_succ]
          refine anyU_take2 (i := 7) (v := ?ov7d) (by simp only [List.getElem?_toArray, List.getElem?_cons_succ, List.getElem?_cons_zero]; exact rfl) (by kernel_rfl) 4 (by kernel_rfl) (by kernel_rfl) (fun _ _ _ h => h) (by kernel_rfl) (by kernel_rfl) (by kernel_rfl) (by kernel_rfl) (Or.inl ⟨by rfl, ?oy7d⟩) (by with_reducible exact HS.out) ?or7d
          case oy7d => (intro w hSw; obtain ⟨i0, i1⟩ := (Row.two hSw.2.1); go_simp; try with_reducible rfl)
          try simp only [Act.put, List.setIfInBounds_toArray, List.set_cons_zero, List.set_cons_succ]
          refine anyU_pure (i := 10) (v := ?ov10d) (by simp only [List.getElem?_toArray, List.getElem?_cons_succ, List.getElem?_cons_zero]; exact rfl) (by kernel_rfl) (by kernel_rfl) (fun _ _ _ h => h) (fun _ => by with_reducible exact HS.out) (by kernel_rfl) (by kernel_rfl) (Or.inl ⟨by rfl, ?oy10d⟩) ?or10d
          case oy10d => (intro w hSw; go_simp; try with_reducible rfl)
          try simp only [Act.put, List.setIfInBounds_toArray, List.set_cons_zero, List.set_cons_succ]
          refine anyU_pure (i := 11) (v := ?ov11d) (by simp only [List.getElem?_toArray, List.getElem?_cons_succ, List.getElem?_cons_zero]; exact rfl) (by kernel_rfl) (by kernel_rfl) (fun _ _ _ h => h) (fun _ => by with_reducible exact HS.out) (by kernel_rfl) (by kernel_rfl) (Or.inl ⟨by rfl, ?oy11d⟩) ?or11d
          case oy11d => (intro w hSw; go_simp; try with_reducible rfl)
          try simp only [Act.put, List.setIfInBounds_toArray, List.set_cons_zero, List.set_cons_succ]
          refine anyU_pure (i := 12) (v := ?ov12d) (by simp only [List.getElem?_toArray, List.getElem?_cons_succ, List.getElem?_cons_zero]; exact rfl) (by kernel_rfl) (by kernel_rfl) (fun _ _ _ h => h) (fun _ => by with_reducible exact HS.out) (by kernel_rfl) (by kernel_rfl) (Or.inl ⟨by rfl, ?oy12d⟩) ?or12d
          case oy12d => (intro w hSw; go_simp; try with_reducible rfl)
          try simp only [Act.put, List.setIfInBounds_toArray, List.set_cons_zero, List.set_cons_succ]
          refine anyU_take2 (i := 13) (v := ?ov13d) (by simp only [List.getElem?_toArray, List.getElem?_cons_succ, List.getElem?_cons_zero]; exact rfl) (by kernel_rfl) 4 (by kernel_rfl) (by kernel_rfl) (fun _ _ _ h => h) (by kernel_rfl) (by kernel_rfl) (by kernel_rfl) (by kernel_rfl) (Or.inl ⟨by rfl, ?oy13d⟩) (by with_reducible exact HS.out) ?or13d
          case oy13d => (intro w hSw; have x1 := show w.cell? ⟨g, 1, none⟩ = some (.slice B j b) from Row.cell hSw.1 1; go_simp; try with_reducible rfl)
          try simp only [Act.put, List.setIfInBounds_toArray, List.set_cons_zero, List.set_cons_succ]
          refine anyU_take2 (i := 14) (v := ?ov14d) (by simp only [List.getElem?_toArray, List.getElem?_cons_succ, List.getElem?_cons_zero]; exact rfl) (by kernel_rfl) 4 (by kernel_rfl) (by kernel_rfl) (fun _ _ _ h => h) (by kernel_rfl) (by kernel_rfl) (by kernel_rfl) (by kernel_rfl) (Or.inl ⟨by rfl, ?oy14d⟩) (by with_reducible exact HS.out) ?or14d
          case oy14d => (intro w hSw; obtain ⟨a0, a1, a2, a3, a4, a5, a6⟩ := (seven_of (x := c) hSw.2.2).cells; go_simp; try with_reducible rfl)
          try simp only [Act.put, List.setIfInBounds_toArray, List.set_cons_zero, List.set_cons_succ]
          refine anyU_pure (i := 17) (v := ?ov17d) (by simp only [List.getElem?_toArray, List.getElem?_cons_succ, List.getElem?_cons_zero]; exact rfl) (by kernel_rfl) (by kernel_rfl) (fun _ _ _ h => h) (fun _ => by with_reducible exact HS.out) (by kernel_rfl) (by kernel_rfl) (Or.inl ⟨by rfl, ?oy17d⟩) ?or17d
          case oy17d => (intro w hSw; go_simp; try with_reducible rfl)
          try simp only [Act.put, List.setIfInBounds_toArray, List.set_cons_zero, List.set_cons_succ]
          refine anyU_pure (i := 18) (v := ?ov18d) (by simp only [List.getElem?_toArray, List.getElem?_cons_succ, List.getElem?_cons_zero]; exact rfl) (by kernel_rfl) (by kernel_rfl) (fun _ _ _ h => h) (fun _ => by with_reducible exact HS.out) (by kernel_rfl) (by kernel_rfl) (Or.inl ⟨by rfl, ?oy18d⟩) ?or18d
          case oy18d => (intro w hSw; go_simp; try with_reducible rfl)
          try simp only [Act.put, List.setIfInBounds_toArray, List.set_cons_zero, List.set_cons_succ]
          refine anyU_pure (i := 19) (v := ?ov19d) (by simp only [List.getElem?_toArray, List.getElem?_cons_succ, List.getElem?_cons_zero]; exact rfl) (by kernel_rfl) (by kernel_rfl) (fun _ _ _ h => h) (fun _ => by with_reducible exact HS.out) (by kernel_rfl) (by kernel_rfl) (Or.inl ⟨by rfl, ?oy19d⟩) ?or19d
          case oy19d => (intro w hSw; go_simp; try with_reducible rfl)
          try simp only [Act.put, List.setIfInBounds_toArray, List.set_cons_zero, List.set_cons_succ]
          refine anyU_take2 (i := 20) (v := ?ov20d) (by simp only [List.getElem?_toArray, List.getElem?_cons_succ, List.getElem?_cons_zero]; exact rfl) (by kernel_rfl) 4 (by kernel_rfl) (by kernel_rfl) (fun _ _ _ h => h) (by kernel_rfl) (by kernel_rfl) (by kernel_rfl) (by kernel_rfl) (Or.inl ⟨by rfl, ?oy20d⟩) (by with_reducible exact HS.out) ?or20d
          case oy20d => (intro w hSw; have x2 := show w.cell? ⟨g, 2, none⟩ = some (.slice C j cc) from Row.cell hSw.1 2; go_simp; try with_reducible rfl)
          try simp only [Act.put, List.setIfInBounds_toArray, List.set_cons_zero, List.set_cons_succ]
          refine anyU_pure (i := 21) (v := ?ov21d) (by simp only [List.getElem?_toArray, List.getElem?_cons_succ, List.getElem?_cons_zero]; exact rfl) (by kernel_rfl) (by kernel_rfl) (fun _ _ _ h => h) (fun _ => by with_reducible exact HS.out) (by kernel_rfl) (by kernel_rfl) (Or.inl ⟨by rfl, ?oy21d⟩) ?or21d
          case oy21d => (intro w hSw; go_simp; try with_reducible rfl)
          try simp only [Act.put, List.setIfInBounds_toArray, List.set_cons_zero, List.set_cons_succ]
          change anyU _ _ _ _ _ 26 (9 + 6) _ _ _
          have h1 : Ap (.slice A j a) (.slice B j b) := rw_ap HD.out.1.rl HD.out.1.rc (by decide)
          have h2 : Ap (.slice A j a) (.slice C j cc) := rw_ap HD.out.1.rl HD.out.1.rs (by decide)
          have h3 : Ap (.slice B j b) (.slice C j cc) := rw_ap HD.out.1.rc HD.out.1.rs (by decide)
          have l1 : (isV x.k).length + 1 ≤ 1001 := by rw [isV_len, HNN.out]; omega
          have l2 : (csV x.k).length + 1 ≤ 1001 := by rw [csV_len, HNN.out]; omega
          have l3 : (qsV x.k).length + 1 ≤ 1001 := by rw [qsV_len, HNN.out]; omega
          have f1 : some g ≠ (Value.slice A j a).ownBlock := rw_off HD.out.1.rl HD.out.1.row (by decide)
          have f2 : some g ≠ (Value.slice B j b).ownBlock := rw_off HD.out.1.rc HD.out.1.row (by decide)
          have f3 : some g ≠ (Value.slice C j cc).ownBlock := rw_off HD.out.1.rs HD.out.1.row (by decide)
          have hlo : ∀ {v : Value} {sz : Nat} {e : TypeId} {xs : List (List Value)}, Rw base e sz wd v xs → True := fun _ => trivial
          have HOW := hide (show ∀ (k : Nat), ((Value.slice A j a).ownBlock = some k ∨ (Value.slice B j b).ownBlock = some k ∨ (Value.slice C j cc).ownBlock = some k) → k < w.heap.size from fun k hk => HOWN.out k hk)
          have HS2 := hide (show ∀ w', Kp3 (Value.slice A j a).ownBlock (Value.slice B j b).ownBlock (Value.slice C j cc).ownBlock wd w' → Row w' g 46 (ixC (.slice A j a) (.slice B j b) (.slice C j cc) x.d) ∧ Row w' g5 26 #[.int .i64 r, .int .i64 s] ∧ Row w' (g5 + 1) 29 #[.int .i64 c.k, .int .i64 c.c, .int .i64 c.q, .string c.key, .string c.en, .string c.old, .string c.val] from fun w' hk => ⟨hk.row HD.out.1.row f1 f2 f3, hk.kq.row HD.out.2.1 (fun e => by have := HOW.out _ e; have := HE5.out; omega), hk.kq.row HD.out.2.2.1 (fun e => by have := HOW.out _ e; have := HE5.out; omega)⟩)
          refine chainsU3_go (c1 := ⟨83, 84, 26, 2, isV x.k, [.int .i64 r, .int .i64 s], .slice A j a⟩) (c2 := ⟨90, 91, 29, 7, csV x.k, c.l, .slice B j b⟩) (c3 := ⟨97, 98, 3, 1, qsV x.k, [.int .i64 q], .slice C j cc⟩) (base := base) (ou1 := .tmp 82) (os1 := .tmp 81) (ou2 := .tmp 89) (os2 := .tmp 88) (ou3 := .tmp 96) (os3 := .tmp 95) (b1 := 8) (a1 := 9) (b2 := 15) (a2 := 16) (b3 := 22) (a3 := 23)
            (op2m_of elm_inst (by decide) rfl (fun u hu => by simp at hu; rcases hu with rfl | rfl <;> rfl) (lit_inst r s) (by simp only [List.getElem?_toArray, List.getElem?_cons_succ, List.getElem?_cons_zero]; exact rfl) rfl rfl rfl (by simp only [List.getElem?_toArray, List.getElem?_cons_succ, List.getElem?_cons_zero]; exact rfl) rfl rfl rfl l1)
            (op2m_of elm_cmd (by decide) rfl (c_l_cells c) (lit_cmd c) (by simp only [List.getElem?_toArray, List.getElem?_cons_succ, List.getElem?_cons_zero]; exact rfl) rfl rfl rfl (by simp only [List.getElem?_toArray, List.getElem?_cons_succ, List.getElem?_cons_zero]; exact rfl) rfl rfl rfl l2)
            (op2m_of elm_int (by decide) rfl (fun u hu => by simp at hu; subst hu; rfl) (lit_int q) (by simp only [List.getElem?_toArray, List.getElem?_cons_succ, List.getElem?_cons_zero]; exact rfl) rfl rfl rfl (by simp only [List.getElem?_toArray, List.getElem?_cons_succ, List.getElem?_cons_zero]; exact rfl) rfl rfl rfl l3)
            (by kernel_rfl) (by decide) (show [83, 84, 90, 91, 97, 98].Nodup by decide) (by simp) rfl rfl rfl rfl rfl rfl (show 83 < _ from Nat.le_of_ble_eq_true (by kernel_rfl)) (show 90 < _ from Nat.le_of_ble_eq_true (by kernel_rfl)) (show 97 < _ from Nat.le_of_ble_eq_true (by kernel_rfl)) HD.out.1.rl HD.out.1.rc HD.out.1.rs h1 h2 h3 (Nat.le_trans HB.out HD.out.2.2.2.size) (fun w' hk => HS2.out w' hk) (fun p1 y1 p2 y2 p3 y3 wz hr1 hr2 hr3 hp1 hp2 hp3 hkp => ?_)
          have HSZ := hide (HS2.out wz hkp)
          have e1 : isV x.k ++ [[.int .i64 r, .int .i64 s]] = isV (x.k ++ [⟨r, s, c, q⟩]) := by rw [isV_app]; rfl
          have e2 : csV x.k ++ [c.l] = csV (x.k ++ [⟨r, s, c, q⟩]) := by rw [csV_app]; rfl
          have e3 : qsV x.k ++ [[.int .i64 q]] = qsV (x.k ++ [⟨r, s, c, q⟩]) := by rw [qsV_app]; rfl
          have hr1 : Rw base 26 2 wz y1 (isV (x.k ++ [⟨r, s, c, q⟩])) := e1 ▸ hr1
          have hr2 : Rw base 29 7 wz y2 (csV (x.k ++ [⟨r, s, c, q⟩])) := e2 ▸ hr2
          have hr3 : Rw base 3 1 wz y3 (qsV (x.k ++ [⟨r, s, c, q⟩])) := e3 ▸ hr3
          obtain ⟨A2, a2, rfl, _, _, _, _⟩ := own_form hr1
          obtain ⟨B2, b2, rfl, _, _, _, _⟩ := own_form hr2
          obtain ⟨C2, c2, rfl, _, _, _, _⟩ := own_form hr3
          obtain ⟨hfx, hfg⟩ := Rx.put3 (x := x) HSZ.out.1 hr1 hr2 hr3 HLD.out
          have z0 : wz.cell? ⟨g, 0, none⟩ = some (.slice A j a) := HSZ.out.1.cell 0
          have z1 : (wz.setCell ⟨g, 0, none⟩ (.slice A2 (isV (x.k ++ [⟨r, s, c, q⟩])).length a2)).cell? ⟨g, 1, none⟩ = some (.slice B j b) := (HSZ.out.1.put 0 _).cell 1
          have z2 : ((wz.setCell ⟨g, 0, none⟩ (.slice A2 (isV (x.k ++ [⟨r, s, c, q⟩])).length a2)).setCell ⟨g, 1, none⟩ (.slice B2 (csV (x.k ++ [⟨r, s, c, q⟩])).length b2)).cell? ⟨g, 2, none⟩ = some (.slice C j cc) := ((HSZ.out.1.put 0 _).put 1 _).cell 2
          have y0 := HSZ.out.1.free 0
          have y1 : World.frozen? (wz.setCell ⟨g, 0, none⟩ (.slice A2 (isV (x.k ++ [⟨r, s, c, q⟩])).length a2)) ⟨g, 1, none⟩ = false := (HSZ.out.1.put 0 _).free 1
          have y2 : World.frozen? ((wz.setCell ⟨g, 0, none⟩ (.slice A2 (isV (x.k ++ [⟨r, s, c, q⟩])).length a2)).setCell ⟨g, 1, none⟩ (.slice B2 (csV (x.k ++ [⟨r, s, c, q⟩])).length b2)) ⟨g, 2, none⟩ = false := ((HSZ.out.1.put 0 _).put 1 _).free 2
          have HFX := hide hfx
          have HFG := hide hfg
          have HKP := hide hkp
          clear hfx hfg hkp hr1 hr2 hr3 hp1 hp2 hp3 h1 h2 h3 l1 l2 l3 f1 f2 f3 hlo e1 e2 e3 HS2
          generalize (isV (x.k ++ [⟨r, s, c, q⟩])).length = m1 at HFX HFG z1 z2 y1 y2 ⊢
          generalize (csV (x.k ++ [⟨r, s, c, q⟩])).length = m2 at HFX HFG z2 y2 ⊢
          generalize (qsV (x.k ++ [⟨r, s, c, q⟩])).length = m3 at HFX HFG ⊢
          try simp only [Act.put, List.setIfInBounds_toArray, List.set_cons_zero, List.set_cons_succ]
          refine anyU_one (i := 24) (by kernel_rfl) (by simp only [List.getElem?_toArray, List.getElem?_cons_succ, List.getElem?_cons_zero]; exact rfl) (fun K hK => ?_)
          try go_simp
          refine hK.out _ _ (fun e _ => HSZ.out) ?_
          clear hK K
          try simp only [Act.put, List.setIfInBounds_toArray, List.set_cons_zero, List.set_cons_succ]
          refine anyU_one (i := 25) (by kernel_rfl) (by simp only [List.getElem?_toArray, List.getElem?_cons_succ, List.getElem?_cons_zero]; exact rfl) (fun K hK => ?_)
          try go_simp
          refine hK.out _ _ (fun e _ => HSZ.out) ?_
          clear hK K
          try simp only [Act.put, List.setIfInBounds_toArray, List.set_cons_zero, List.set_cons_succ]
          refine anyU_one (i := 26) (by kernel_rfl) (by simp only [List.getElem?_toArray, List.getElem?_cons_succ, List.getElem?_cons_zero]; exact rfl) (fun K hK => ?_)
          try go_simp
          refine hK.out _ _ (fun e _ => absurd rfl e) ?_
          clear hK K
          try simp only [Act.put, List.setIfInBounds_toArray, List.set_cons_zero, List.set_cons_succ]
          generalize wz.setCell ⟨g, 0, none⟩ _ = w1 at HFX HFG z1 z2 y1 y2 ⊢
          refine anyU_one (i := 27) (by kernel_rfl) (by simp only [List.getElem?_toArray, List.getElem?_cons_succ, List.getElem?_cons_zero]; exact rfl) (fun K hK => ?_)
          try go_simp
          refine hK.out _ _ (fun _ l => absurd (l.symm.trans (show _ = true by kernel_rfl)) (by decide)) ?_
          clear hK K
          try simp only [Act.put, List.setIfInBounds_toArray, List.set_cons_zero, List.set_cons_succ]
          refine anyU_one (i := 28) (by kernel_rfl) (by simp only [List.getElem?_toArray, List.getElem?_cons_succ, List.getElem?_cons_zero]; exact rfl) (fun K hK => ?_)
          try go_simp
          refine hK.out _ _ (fun _ l => absurd (l.symm.trans (show _ = true by kernel_rfl)) (by decide)) ?_
          clear hK K
          try simp only [Act.put, List.setIfInBounds_toArray, List.set_cons_zero, List.set_cons_succ]
          refine anyU_one (i := 29) (by kernel_rfl) (by simp only [List.getElem?_toArray, List.getElem?_cons_succ, List.getElem?_cons_zero]; exact rfl) (fun K hK => ?_)
          try go_simp
          refine hK.out _ _ (fun _ l => absurd (l.symm.trans (show _ = true by kernel_rfl)) (by decide)) ?_
          clear hK K
          try simp only [Act.put, List.setIfInBounds_toArray, List.set_cons_zero, List.set_cons_succ]
          generalize w1.setCell ⟨g, 1, none⟩ _ = w2 at HFX HFG z2 y2 ⊢
          refine anyU_one (i := 30) (by kernel_rfl) (by simp only [List.getElem?_toArray, List.getElem?_cons_succ, List.getElem?_cons_zero]; exact rfl) (fun K hK => ?_)
          try go_simp
          refine hK.out _ _ (fun _ l => absurd (l.symm.trans (show _ = true by kernel_rfl)) (by decide)) ?_
          clear hK K
          try simp only [Act.put, List.setIfInBounds_toArray, List.set_cons_zero, List.set_cons_succ]
          refine anyU_one (i := 31) (by kernel_rfl) (by simp only [List.getElem?_toArray, List.getElem?_cons_succ, List.getElem?_cons_zero]; exact rfl) (fun K hK => ?_)
          try go_simp
          refine hK.out _ _ (fun _ l => absurd (l.symm.trans (show _ = true by kernel_rfl)) (by decide)) ?_
          clear hK K
          try simp only [Act.put, List.setIfInBounds_toArray, List.set_cons_zero, List.set_cons_succ]
          refine anyU_one (i := 32) (by kernel_rfl) (by simp only [List.getElem?_toArray, List.getElem?_cons_succ, List.getElem?_cons_zero]; exact rfl) (fun K hK => ?_)
          try go_simp
          refine hK.out _ _ (fun _ l => absurd (l.symm.trans (show _ = true by kernel_rfl)) (by decide)) ?_
          clear hK K
          try simp only [Act.put, List.setIfInBounds_toArray, List.set_cons_zero, List.set_cons_succ]
          generalize w2.setCell ⟨g, 2, none⟩ _ = w3 at HFX HFG ⊢
          refine anyU_done (by kernel_rfl) ?_
          refine NoPanic.normal ?_
          try simp only [Act.put]
          go_wp2
          go_ret
          refine ⟨by rw [HT.out]; rfl, .slice A2 m1 a2, .slice B2 m2 b2, .slice C2 m3 c2, ?_, ?_⟩
          · rw [note_may HT.out, putK_none HNO.out]
            exact HFX.out
          · refine ((Kq.of_below HD.out.2.2.2).trans (HKP.out.kq.mono (o' := rxO g (.slice A j a) (.slice B j b) (.slice C j cc)) (fun b hb => .inr hb)) (fun k _ h => h)).trans (Kq.grown (o := rxO g (.slice A j a) (.slice B j b) (.slice C j cc)) HFG.out (fun k e => .inl (by cases e; rfl))) (fun k _ h => h)
end Go.Proofs.Ytfihcgimgngmhaa
