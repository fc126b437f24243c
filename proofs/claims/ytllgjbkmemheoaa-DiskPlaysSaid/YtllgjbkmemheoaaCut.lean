/- Cut of the program's disk. Conditions: the name has room, the number is an int. -/
import Derived.Test.YtllgjbkmemheoaaSync
namespace Go.Proofs.Ytllgjbkmemheoaa
open Go.RowKit Go.Maps
section
variable {S : Nat → Prop} {w : World} {g : Nat} {d : DS} {nm : ByteArray}
set_option maxRecDepth 100000 in
set_option maxHeartbeats 1000000 in
theorem cut_any (h : Dk S w g d) (hs : nm.size ≤ maxLen) (n : Int) (hn : -9223372036854775808 ≤ n ∧ n ≤ 9223372036854775807) :
    Calls Try.prog 35 #[.pointer (some ⟨g, 0, none⟩), .string nm, .int .i64 n] w (Chg S w g (cutE d nm n) (cutS d nm n)) := by
  obtain ⟨b, lf, loc, h⟩ := h
  have hD : Dk S w g d := ⟨b, lf, loc, h⟩
  have c1 : w.cell? ⟨g, 1, none⟩ = some (.map (some b)) := h.row.cell 1
  have c3 := h.row.cell 3
  unfold cutE cutS
  cases ho : d.off with
  | true =>
    have H := hide (Chg.same hD 10)
    have hl := h.someF hs
    generalize ptrO loc d.l nm = pp at hl
    rw [ho] at c3
    clear h ho hs hD
    go_enter Try.func35, Try.ntmps35
    go_wp2
    go_ret
    exact H.out
  | false =>
    rw [ho] at c3
    cases hf : find nm d.l with
    | none =>
      have H := hide (Chg.same hD 8)
      have hl := h.noF hs hf
      clear h ho hs hD hf
      go_enter Try.func35, Try.ntmps35
      go_wp2
      go_ret
      exact H.out
    | some f =>
      have hat := h.atF hs hf
      have hl := hat.look
      have p0 := hat.p0
      obtain ⟨hfm, rfl⟩ := find_mem hf
      have hfl := flen h.ok hfm
      have hle := (h.files.one f hfm).le
      by_cases hb : n < 0 ∨ (f.dt.length : Int) < n
      · simp only [hb, if_true, Bool.false_eq_true, if_false]
        have H := hide (Chg.same hD 1)
        generalize (loc f.nm).p = p at *
        generalize (loc f.nm).A = B at *
        generalize (loc f.nm).c = cb at *
        clear h ho hs hD hf hat hfm
        rcases hb with hb | hb
        · go_enter Try.func35, Try.ntmps35
          go_wp2
          go_ret
          exact H.out
        · have hb' : ¬ n < 0 := by omega
          go_enter Try.func35, Try.ntmps35
          go_wp2
          go_ret
          exact H.out
      by_cases h0 : d.left = 0
      · have hP := hide (spend_dp h)
        rw [show d.spends = false from by unfold DS.spends; rw [h0]; rfl] at hP
        have H := hide (fun w2 (k : Dk S w2 g d.spent) (hg : w.grownBy w2 (some g)) => Chg.spent (w := w) k hg h.sg (Below.refl _ _) 10)
        simp only [hb, h0, if_true, Bool.false_eq_true, if_false]
        have hb1 : ¬ n < 0 := by omega
        have hb2 : ¬ (f.dt.length : Int) < n := by omega
        clear h ho hs hD hf hat h0 hb
        go_enter Try.func35, Try.ntmps35
        go_wp2_with (go_at_call 30; (with_reducible refine hP.out.mono ?_); rintro e w2 ⟨rfl, ⟨m, hD⟩, hg⟩)
        go_ret
        exact H.out _ ⟨_, _, _, hD⟩ hg
      · have hP := hide (spend_dp h)
        rw [show d.spends = true from by unfold DS.spends; simpa using h0] at hP
        simp only [hb, h0, Bool.false_eq_true, if_false]
        obtain ⟨k, rfl⟩ : ∃ k : Nat, n = k := ⟨n.toNat, by omega⟩
        simp only [Int.toNat_natCast]
        have H := hide (show ∀ w2 m, Dp S w2 g b m loc d.spent → w.grownBy w2 (some g) → AtF w2 g f.nm b (loc f.nm).p (loc f.nm).A f.dt.length (loc f.nm).c f.kp ∧
            Chg S w g 0 { d.spent with l := putF ⟨f.nm, f.dt.take k, min f.kp k⟩ d.l } (.returned (.int .i64 0)) ((w2.setCell ⟨(loc f.nm).p, 0, none⟩ (.slice (loc f.nm).A k (loc f.nm).c)).setCell ⟨(loc f.nm).p, 1, none⟩ (.int .i64 (min f.kp k : Nat))) from by
          intro w2 m h2 hg
          have hl2 : f ∈ d.spent.l := by rw [spent_l]; exact hfm
          have hT : Turn S w w2 := Turn.of_grown (S := S) hg (fun k e => by injection e with e; rw [← e]; exact h.sg)
          refine ⟨h2.atF hs (by rw [spent_l]; exact hf), rfl, ?_⟩
          have hrow := (h2.files.one f hl2).head
          obtain ⟨hD', hT'⟩ := h2.fewer hl2 k (min f.kp k) (by omega) (by omega) (w' := (w2.setCell ⟨(loc f.nm).p, 0, none⟩ (.slice (loc f.nm).A k (loc f.nm).c)).setCell ⟨(loc f.nm).p, 1, none⟩ (.int .i64 (min f.kp k : Nat))) (grown_put (grown_put (grown_refl _ _) 0 _) 1 _) ((hrow.put 0 _).put 1 _)
          rw [spent_l] at hD'
          exact ⟨_, hD', ⟨hT.trans hT' (fun k hk => .inl hk), fun k hk => hk.imp id fun e => Nat.le_trans hT.size e.1⟩⟩)
        have hkp := h.ok.kp f hfm
        have hk : k ≤ f.dt.length := by omega
        have hB := (h.files.one f hfm).nil
        generalize (loc f.nm).p = p at *
        generalize (loc f.nm).A = B at *
        generalize (loc f.nm).c = cb at *
        have hb1 : ¬ (k : Int) < 0 := by omega
        have hb2 : ¬ (f.dt.length : Int) < (k : Int) := by omega
        have hmin : ((min f.kp k : Nat) : Int) = min (f.kp : Int) (k : Int) := by omega
        have HM := hide hmin
        clear h ho hs hD hf hat h0 hfm hb hmin
        go_enter Try.func35, Try.ntmps35
        go_wp2_with (go_at_call 30; (with_reducible refine hP.out.mono ?_); rintro e w2 ⟨rfl, ⟨m, hD⟩, hg⟩; obtain ⟨hat, hC⟩ := H.out w2 m hD hg; have p0 := hat.p0; have p1 := hat.p1; have f0 := hat.f0; have f1 := hat.f1; clear hat hD hg H hP)
        rw [HM.out] at hC
        go_ret
        exact hC
end
end Go.Proofs.Ytllgjbkmemheoaa
