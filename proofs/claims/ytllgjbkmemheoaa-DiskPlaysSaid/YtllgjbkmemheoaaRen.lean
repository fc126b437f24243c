/- Rename of the program's disk. Condition: the names have room. -/
import Derived.Test.YtllgjbkmemheoaaRem
namespace Go.Proofs.Ytllgjbkmemheoaa
open Go.RowKit Go.Maps
section
variable {S : Nat → Prop} {w w' : World} {g b : Nat} {lf : Int} {loc : ByteArray → Loc} {d : DS} {nm to : ByteArray}
/-- A file that was struck out comes under another name. -/
theorem Dp.renamed {w2 w3 : World} (h : Dp S w2 g b lf loc d) {f : Fl} (hf : f ∈ d.l) (h3 : Dp S w3 g b lf loc { d with l := delF f.nm d.l }) (hg : w2.grownBy w3 (some b)) (hn : nameB to = true) (hl : d.l.length < 9000000000) :
    ∃ w4, (Instr.mapUpdate 57 (.map (some b)) (.string to) (.pointer (some ⟨(loc f.nm).p, 0, none⟩))).run Try.prog w3 = .ok () w4 ∧ Dk S w4 g { d with l := putF ⟨to, f.dt, f.kp⟩ (delF f.nm d.l) } ∧ Turn S w2 w4 := by
  have hsz := (name_size hn).2
  have hln : (delF f.nm d.l).length ≤ d.l.length := List.length_filter_le _ _
  obtain ⟨w4, hr, hm, hg4⟩ := h3.map.put h3.ok.up (by unfold maxLen; simp only; omega) ⟨to, f.dt, f.kp⟩ (loc f.nm) (by unfold maxLen; simp only; omega)
  have stay : ∀ {k : Nat} {cs : Array Value} {t : TypeId} {fr : Nat × Nat}, w2.heap[k]? = some (.cells cs t fr) → w3.heap[k]? = w2.heap[k]? := fun {k cs t fr} hk => by
    refine hg.block k (Array.getElem?_eq_some_iff.1 hk).1 fun e => ?_
    obtain ⟨D, ⟨es, c, hb, _⟩, _⟩ := h.map
    injection e with e
    rw [e, hb] at hk; cases hk
  have hfo := h.files.one f hf
  have ho : OneF w3 (loc f.nm) f.dt.length f.kp f.dt := hfo.kept (stay hfo.head) (fun r hr => by obtain ⟨cur, hc⟩ := hfo.block hr; exact stay hc)
  have htot := total_delF f.nm d.l h.ok.up
  rw [find_of_mem h.ok.up hf] at htot
  simp only [lenO] at htot
  have hadd := h3.add ⟨to, f.dt, f.kp⟩ (loc f.nm) (T := S) (fun k hk => hk) h3.lt ho
    (fun y hy _ e => (mem_delF.1 hy).2 (h.files.inj y (mem_delF.1 hy).1 f hf e)) (fun y hy _ r hr e => (mem_delF.1 hy).2 (h.files.apart y (mem_delF.1 hy).1 f hf r hr e))
    (h.files.inp f hf) (h.files.inr f hf) hg4 hm
    (dok_put h3.ok _ (h.ok.kp f hf) hn (h.ok.oct f hf) (by have := h.ok.tot; simp only; omega))
  exact ⟨w4, hr, ⟨_, _, _, hadd⟩, (Turn.of_grown (S := S) hg (fun k e => by injection e with e; rw [← e]; exact h.sb)).trans (Turn.of_grown (S := S) hg4 (fun k e => by injection e with e; rw [← e]; exact h.sb)) (fun k hk => .inl hk)⟩
set_option maxRecDepth 100000 in
set_option maxHeartbeats 1000000 in
theorem rename_any (h : Dk S w g d) (hs : nm.size ≤ maxLen) (ht : to.size ≤ 140737488351232) (hln : d.l.length < 9000000000) :
    Calls Try.prog 21 #[.pointer (some ⟨g, 0, none⟩), .string nm, .string to] w (Chg S w g (renE d nm to) (renS d nm to)) := by
  obtain ⟨b, lf, loc, h⟩ := h
  have hD : Dk S w g d := ⟨b, lf, loc, h⟩
  have c1 : w.cell? ⟨g, 1, none⟩ = some (.map (some b)) := h.row.cell 1
  have c3 := h.row.cell 3
  have hN := hide (mayBe_any to w ht)
  unfold renE renS
  cases ho : d.off with
  | true =>
    have H := hide (Chg.same hD 10)
    have hl := h.someF hs
    generalize ptrO loc d.l nm = pp at hl
    rw [ho] at c3
    clear h ho hs hD
    go_enter Try.func21, Try.ntmps21
    go_wp2
    go_ret
    exact H.out
  | false =>
    rw [ho] at c3
    cases hn : nameB to with
    | false =>
      have H := hide (Chg.same hD 11)
      have hl := h.someF hs
      generalize ptrO loc d.l nm = pp at hl
      rw [hn] at hN
      clear h ho hs hD hn
      go_enter Try.func21, Try.ntmps21
      go_wp2_with (go_at_call 29; (with_reducible refine hN.out.mono ?_); rintro e w' ⟨rfl, rfl⟩)
      go_ret
      exact H.out
    | true =>
      rw [hn] at hN
      cases hf : find nm d.l with
      | none =>
        have H := hide (Chg.same hD 8)
        have hl := h.noF hs hf
        clear h ho hs hD hf hn
        go_enter Try.func21, Try.ntmps21
        go_wp2_with (go_at_call 29; (with_reducible refine hN.out.mono ?_); rintro e w' ⟨rfl, rfl⟩)
        go_ret
        exact H.out
      | some f =>
        have hat := h.atF hs hf
        have hl := hat.look
        obtain ⟨hfm, rfl⟩ := find_mem hf
        by_cases h0 : d.left = 0
        · have hP := hide (spend_dp h)
          rw [show d.spends = false from by unfold DS.spends; rw [h0]; rfl] at hP
          have H := hide (fun w2 (k : Dk S w2 g d.spent) (hg : w.grownBy w2 (some g)) => Chg.spent (w := w) k hg h.sg (Below.refl _ _) 10)
          simp only [h0, if_true, Bool.false_eq_true, if_false, Option.isNone_some, reduceCtorEq]
          clear h ho hs hD hf hat h0 hn
          go_enter Try.func21, Try.ntmps21
          go_wp2_with (first
            | (go_at_call 29; (with_reducible refine hN.out.mono ?_); rintro e w' ⟨rfl, rfl⟩)
            | (go_at_call 30; (with_reducible refine hP.out.mono ?_); rintro e w2 ⟨rfl, ⟨m, hD⟩, hg⟩))
          go_ret
          exact H.out _ ⟨_, _, _, hD⟩ hg
        · have hP := hide (spend_dp h)
          rw [show d.spends = true from by unfold DS.spends; simpa using h0] at hP
          simp only [h0, Bool.false_eq_true, if_false, Option.isNone_some, reduceCtorEq]
          have H := hide (show ∀ w2 w3 m, w.grownBy w2 (some g) → Dp S w2 g b m loc d.spent → Dp S w3 g b m loc { d.spent with l := delF f.nm d.spent.l } → w2.grownBy w3 (some b) → w3.cell? ⟨g, 1, none⟩ = some (.map (some b)) ∧
              ∃ w4, (Instr.mapUpdate 57 (.map (some b)) (.string to) (.pointer (some ⟨(loc f.nm).p, 0, none⟩))).run Try.prog w3 = .ok () w4 ∧ Chg S w g 0 { d.spent with l := putF ⟨to, f.dt, f.kp⟩ (delF f.nm d.l) } (.returned (.int .i64 0)) w4 from by
            intro w2 w3 m hg h2 h3 hg3
            obtain ⟨w4, hr, hD4, hT⟩ := h2.renamed (f := f) (by rw [spent_l]; exact hfm) h3 hg3 hn (by rw [spent_l]; exact hln)
            rw [spent_l] at hD4
            exact ⟨h3.row.cell 1, w4, hr, rfl, S, hD4, ⟨(Turn.of_grown (S := S) hg (fun k e => by injection e with e; rw [← e]; exact h.sg)).trans hT (fun k hk => .inl hk), fun k hk => .inl hk⟩⟩)
          generalize (loc f.nm).p = p at *
          clear h ho hD hf hat h0 hn hfm
          go_enter Try.func21, Try.ntmps21
          go_wp2_with (first
            | (go_at_call 29; (with_reducible refine hN.out.mono ?_); rintro e w' ⟨rfl, rfl⟩)
            | (go_at_call 30; (with_reducible refine hP.out.mono ?_); rintro e w2 ⟨rfl, ⟨m, hD⟩, hg⟩; have d1 : w2.cell? ⟨g, 1, none⟩ = some (.map (some b)) := hD.row.cell 1; have HD := hide hD; clear hD hP)
            | (at_delete; refine wpList_strike rfl _ _ rfl HD.out hs rfl rfl ?_; intro w3 h3 hg3; obtain ⟨d2, w4, hup, hC⟩ := H.out w2 w3 m hg HD.out h3 hg3; have HC := hide hC; clear hC h3 hg3 hg H HD d1))
          go_ret
          exact HC.out
end
end Go.Proofs.Ytllgjbkmemheoaa
