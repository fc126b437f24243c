/- What the document's Range comes to. Conditions: the list lies in memory, its length has room. -/
import Derived.Test.YtmcemijipplkgaaRg
namespace Go.Proofs.Ytmcemijipplkgaa
open Go.RowKit
theorem rhas_same (lo hi k : ByteArray) : rhasB lo hi k = hasB lo hi k := rfl
set_option maxRecDepth 100000 in
set_option maxHeartbeats 2000000 in
theorem rrange_any (v : Value) (l : List Pr) (lo hi : ByteArray) (w : World) (h : Pin w v l) (ln : l.length ≤ 4611686018427387904) :
    Calls Try.prog 21 #[v, .agg #[.string lo, .string hi]] w (Ans w (rngP l lo hi) (.bool (moreB l lo hi))) := by
  obtain ⟨A, c, rfl, hA, hc, hcc, hl⟩ := h
  have HL := hide hl
  clear hl
  go_enter Try.func21, Try.ntmps21
  go_upto_region 1 with (fail)
  have TW := hide (Two.new w lo hi 35)
  have HB1 := hide (kept_alloc (kept_refl w) (.cells #[.string lo, .string hi] 35))
  have HL1 := hide (HL.out.alloc (.cells #[.string lo, .string hi] 35))
  clear HL
  generalize w.alloc (.cells #[.string lo, .string hi] 35) = w1 at TW HB1 HL1 ⊢
  generalize w.heap.size = g0 at TW ⊢
  go_wp2
  go_loopw [6, 7] (fun v i wr => ∃ (k n c' : Nat) (A' : Option Addr), k ≤ l.length ∧ i = .int .i64 k ∧ v = .slice A' n c' ∧ n ≤ 8 ∧ Hid ((inP (l.take k) lo hi).length = n) ∧ Hid (Rg w1 wr (.slice A' n c') l lo hi k)) (fun _ i _ => l.length - (intOf i).toNat)
  case atStart => exact ⟨0, 0, 0, none, by omega, rfl, rfl, by omega, rfl, Rg.start _ _ _ _⟩
  case round =>
    obtain ⟨k, n, c', A', hk, rfl, rfl, hn8, HN, R⟩ := hrel
    by_cases hlt : k < l.length
    · obtain ⟨p, hp⟩ : ∃ p, l[k]? = some p := ⟨_, List.getElem?_eq_getElem hlt⟩
      obtain ⟨b, o, rfl, hbs, c0, c1, c2⟩ := (HL1.out.below R.out.old).at_ hp
      have HP := hide hp
      clear hp
      have TW2 := TW.out.kept R.out.old
      obtain ⟨s0, s1⟩ : _ ∧ _ := ⟨TW2.c0, TW2.c1⟩
      have lg := TW2.lt
      clear TW2
      have HH := hide (fun w => rhas_any lo hi p.k w)
      have HD := hide (show wr.cell? ⟨b, o + k * 3, none⟩ = some (.string p.k) ∧ wr.cell? ⟨b, o + k * 3 + 1, none⟩ = some (.string p.v) ∧ wr.cell? ⟨b, o + k * 3 + 2, none⟩ = some (.int .i64 p.n) ∧ b < wr.heap.size from ⟨c0, c1, c2, hbs⟩)
      go_upto_region 5 with (fail)
      have st : Below wr.heap.size wr wr := kept_refl wr
      cases ht : hasB lo hi p.k
      · have ht' := (rhas_same lo hi p.k).trans ht
        rw [ht'] at HH
        have R4 := hide (R.out.skip HP.out ht)
        have N4 : Hid ((inP (l.take (k + 1)) lo hi).length = n) := hide (by rw [inP_no HP.out ht]; exact HN.out)
        clear ht ht'
        refine wp_region_sp (fun w' => Below wr.heap.size wr w') (by kernel_rfl) (by kernel_rfl) st.drew ?_
        generalize hS : (fun w' => Below wr.heap.size wr w') = S
        have l0 : ∀ s : Sp S, s.w.cell? ⟨g0, 0, none⟩ = some (.string lo) := by subst hS; exact fun s => (s.ok.cell (p := ⟨g0, 0, none⟩) lg).trans s0
        have l1 : ∀ s : Sp S, s.w.cell? ⟨g0, 1, none⟩ = some (.string hi) := by subst hS; exact fun s => (s.ok.cell (p := ⟨g0, 1, none⟩) lg).trans s1
        have l2 : ∀ s : Sp S, s.w.cell? ⟨b, o + k * 3, none⟩ = some (.string p.k) := by subst hS; exact fun s => (s.ok.cell (p := ⟨b, o + k * 3, none⟩) hbs).trans c0
        have ne : Nonempty (Sp S) := by subst hS; exact ⟨⟨_, st⟩⟩
        have STEP := hide (show ∀ w w', S w → Below w.heap.size w w' → S w' by subst hS; exact fun _ _ h hb => kept_trans h hb)
        have OLD := hide (show ∀ s : Sp S, Below wr.heap.size wr s.w by subst hS; exact fun s => s.ok)
        clear s0 s1 c0 c1 c2 hbs lg
        clear st hS
        repeat (go_big_quiet_step ((first | (go_at_call 28; with_reducible exact sp_call STEP.out _ (HH.out _)))))
        refine wpQuiet_nil ?_
        intro kk
        have OK := hide (OLD.out kk)
        generalize kk.w = wk at OK ⊢
        clear l0 l1 l2 ne OLD STEP
        have R3 := hide (R4.out.step OK.out)
        go_wp2
        go_roundw
        case rel => exact ⟨k + 1, n, c', A', by omega, by go_num, rfl, hn8, N4, R3⟩
        case measure => simp [intOf]; omega
      · have ht' := (rhas_same lo hi p.k).trans ht
        rw [ht'] at HH
        clear ht'
        by_cases h8 : n = 8
        · subst h8
          have HE := hide (rng_full HP.out ht HN.out)
          clear ht
          refine wp_region_sp (fun w' => Below wr.heap.size wr w') (by kernel_rfl) (by kernel_rfl) st.drew ?_
          generalize hS : (fun w' => Below wr.heap.size wr w') = S
          have l0 : ∀ s : Sp S, s.w.cell? ⟨g0, 0, none⟩ = some (.string lo) := by subst hS; exact fun s => (s.ok.cell (p := ⟨g0, 0, none⟩) lg).trans s0
          have l1 : ∀ s : Sp S, s.w.cell? ⟨g0, 1, none⟩ = some (.string hi) := by subst hS; exact fun s => (s.ok.cell (p := ⟨g0, 1, none⟩) lg).trans s1
          have l2 : ∀ s : Sp S, s.w.cell? ⟨b, o + k * 3, none⟩ = some (.string p.k) := by subst hS; exact fun s => (s.ok.cell (p := ⟨b, o + k * 3, none⟩) hbs).trans c0
          have ne : Nonempty (Sp S) := by subst hS; exact ⟨⟨_, st⟩⟩
          have STEP := hide (show ∀ w w', S w → Below w.heap.size w w' → S w' by subst hS; exact fun _ _ h hb => kept_trans h hb)
          have OLD := hide (show ∀ s : Sp S, Below wr.heap.size wr s.w by subst hS; exact fun s => s.ok)
          clear s0 s1 c0 c1 c2 hbs lg
          clear st hS
          repeat (go_big_quiet_step ((first | (go_at_call 28; with_reducible exact sp_call STEP.out _ (HH.out _)))))
          refine wpQuiet_nil ?_
          intro kk
          have OK := hide (OLD.out kk)
          generalize kk.w = wk at OK ⊢
          clear l0 l1 l2 ne OLD STEP
          have R3 := hide (R.out.step OK.out)
          go_wp2
          go_ret2
          exact ⟨_, by rw [HE.out.2]; rfl, by rw [HE.out.1]; exact R3.out.own.mono HB1.out.size, kept_trans HB1.out R3.out.old⟩
        · have h8' : ((n : Int) == 8) = false := by simp; omega
          have HX := hide (inP_yes HP.out ht)
          clear ht
          refine wp_region_sp (fun w' => Below wr.heap.size wr w') (by kernel_rfl) (by kernel_rfl) st.drew ?_
          generalize hS : (fun w' => Below wr.heap.size wr w') = S
          have l0 : ∀ s : Sp S, s.w.cell? ⟨g0, 0, none⟩ = some (.string lo) := by subst hS; exact fun s => (s.ok.cell (p := ⟨g0, 0, none⟩) lg).trans s0
          have l1 : ∀ s : Sp S, s.w.cell? ⟨g0, 1, none⟩ = some (.string hi) := by subst hS; exact fun s => (s.ok.cell (p := ⟨g0, 1, none⟩) lg).trans s1
          have l2 : ∀ s : Sp S, s.w.cell? ⟨b, o + k * 3, none⟩ = some (.string p.k) := by subst hS; exact fun s => (s.ok.cell (p := ⟨b, o + k * 3, none⟩) hbs).trans c0
          have ne : Nonempty (Sp S) := by subst hS; exact ⟨⟨_, st⟩⟩
          have STEP := hide (show ∀ w w', S w → Below w.heap.size w w' → S w' by subst hS; exact fun _ _ h hb => kept_trans h hb)
          have OLD := hide (show ∀ s : Sp S, Below wr.heap.size wr s.w by subst hS; exact fun s => s.ok)
          clear s0 s1 c0 c1 c2 hbs lg
          clear st hS
          repeat (go_big_quiet_step ((first | (go_at_call 28; with_reducible exact sp_call STEP.out _ (HH.out _)))))
          refine wpQuiet_nil ?_
          intro kk
          have OK := hide (OLD.out kk)
          generalize kk.w = wk at OK ⊢
          clear l0 l1 l2 ne OLD STEP
          have R3 := hide (R.out.step OK.out)
          obtain ⟨r0, r1, r2, rb⟩ := HD.out
          replace r0 := (OK.out.cell (p := ⟨b, o + k * 3, none⟩) rb).trans r0
          replace r1 := (OK.out.cell (p := ⟨b, o + k * 3 + 1, none⟩) rb).trans r1
          replace r2 := (OK.out.cell (p := ⟨b, o + k * 3 + 2, none⟩) rb).trans r2
          clear HD R HH
          have PO := hide (prs_one wk p 29)
          have R5 := hide (R3.out.step (kept_alloc (kept_refl wk) (.cells #[.string p.k, .string p.v, .int .i64 p.n] 29)))
          have hsz := R5.out.old.size
          go_wp2_with (at_builtin; refine wpList_append_mine rfl (.tmp 26) (.tmp 31) rfl rfl R5.out.own _ 1 1 rfl rfl (fun h => by cases h) PO.out (by rw [HN.out]; omega) hsz ?_; intro v4 w4 ho4 hb4)
          have R6 := hide (show Rg w1 w4 v4 l lo hi (k + 1) from ⟨by rw [HX.out]; exact ho4, by rw [HX.out, List.length_append, HN.out]; simp; omega, R5.out.old.grown hb4 hsz (fun k hk => (R5.out.own.lt k hk))⟩)
          clear ho4 hb4
          obtain ⟨A5, c5, n5, rfl, hn5, hn58⟩ := R6.out.form
          go_roundw
          case rel => exact ⟨k + 1, n5, c5, A5, by omega, by go_num, rfl, hn58, hn5.symm, R6⟩
          case measure => simp [intOf]; omega
    · obtain rfl : k = l.length := by omega
      have e0 : inP (l.take l.length) lo hi = inP l lo hi := by rw [List.take_length]
      have HE := hide (rng_end (l := l) (lo := lo) (hi := hi) (by rw [← e0]; exact R.out.few))
      have HO : Hid (Mine w1.heap.size wr (.slice A' n c') (inP l lo hi)) := hide (by rw [← e0]; exact R.out.own)
      clear e0
      go_wp2
      go_ret2
      exact ⟨_, by rw [HE.out.2]; rfl, by rw [HE.out.1]; exact HO.out.mono HB1.out.size, kept_trans HB1.out R.out.old⟩
end Go.Proofs.Ytmcemijipplkgaa
