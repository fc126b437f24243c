/- Sync, Cut of the program's disk; what a file's own cells make. Condition: the name has room. -/
import Derived.Test.YtllgjbkmemheoaaAppw
import Derived.Lib.MinMax
namespace Go.Proofs.Ytllgjbkmemheoaa
open Go.RowKit Go.Maps
theorem own_take {w : World} {A : Option Addr} {n c m : Nat} {zs : List Int} (h : w.ownsRow 0 5 1 (.slice A n c) n (cellsOf zs)) (hm : m ≤ n) : w.ownsRow 0 5 1 (.slice A m c) m (cellsOf (zs.take m)) := by
  have hl : zs.length = n := by have := h.1; rw [length_cellsOf] at this; omega
  refine ⟨by rw [length_cellsOf, List.length_take]; omega, ?_⟩
  rcases h.2 with ⟨hv, h0⟩ | ⟨g, cap, cur, hv, hb, hg, hn, hc, hs, ht⟩
  · injection hv with h1 _ h3
    obtain rfl : m = 0 := by omega
    exact .inl ⟨by rw [h1, h3], rfl⟩
  · injection hv with h1 _ h3
    refine .inr ⟨g, cap, cur, by rw [h1, h3], hb, hg, by omega, hc, hs, ?_⟩
    unfold cellsOf at ht ⊢
    rw [List.map_take, ← ht, List.take_take]
    congr 1; omega
section
variable {S : Nat → Prop} {w w' : World} {g b : Nat} {lf : Int} {loc : ByteArray → Loc} {d : DS}
/-- A file's own cells turn: it has fewer bytes, other ones are kept. -/
theorem Dp.fewer (h : Dp S w g b lf loc d) {f : Fl} (hf : f ∈ d.l) (n k : Nat) (hn : n ≤ f.dt.length) (hk : k ≤ n) (hg : w.grownBy w' (some (loc f.nm).p))
    (hr : Row w' (loc f.nm).p 62 #[.slice (loc f.nm).A n (loc f.nm).c, .int .i64 k]) : Dk (More S w w') w' g { d with l := putF ⟨f.nm, f.dt.take n, k⟩ d.l } ∧ Turn S w w' := by
  have hfo := h.files.one f hf
  have hlen : (f.dt.take n).length = n := by rw [List.length_take]; omega
  have hO : OneF w' (loc f.nm) (f.dt.take n).length k (f.dt.take n) := by
    rw [hlen]
    refine ⟨hr, ?_⟩
    have := own_take hfo.data hn
    refine ⟨this.1, ?_⟩
    rcases this.2 with hv | ⟨q, cap, cur, hv, hb, hh, rest⟩
    · exact .inl hv
    · refine .inr ⟨q, cap, cur, hv, hb, (hg.block q (Array.getElem?_eq_some_iff.1 hh).1 fun e => ?_).trans hh, rest⟩
      injection e with e
      rw [e] at hh
      exact kind_ne hfo.head hh (by decide) rfl
  obtain ⟨hD, hT⟩ := h.upd hf ⟨f.nm, f.dt.take n, k⟩ rfl (loc f.nm) rfl (Turn.of_grown hg (fun q e => by injection e with e; exact .inl e.symm)) hO (fun r hr => .inl hr)
    (dok_put h.ok _ (by show k ≤ (f.dt.take n).length; omega) (h.ok.nm f hf) (fun z hz => h.ok.oct f hf z (List.mem_of_mem_take hz)) (by
      simp only
      rw [find_of_mem h.ok.up hf, hlen]
      simp only [lenO]
      have := h.ok.tot
      omega))
  exact ⟨⟨b, lf, _, hD⟩, hT⟩
end
section
variable {S : Nat → Prop} {w : World} {g : Nat} {d : DS} {nm : ByteArray}
/-- What a call meets behind spend, where the file is there. -/
structure AtF (w : World) (g : Nat) (nm : ByteArray) (b p : Nat) (B : Option Addr) (n cb k : Nat) : Prop where
  c1 : w.cell? ⟨g, 1, none⟩ = some (.map (some b))
  look : (Instr.lookup 57 (.map (some b)) (.string nm) false).run Try.prog w = .ok (.pointer (some ⟨p, 0, none⟩)) w
  p0 : w.cell? ⟨p, 0, none⟩ = some (.slice B n cb)
  p1 : w.cell? ⟨p, 1, none⟩ = some (.int .i64 k)
  f0 : w.frozen? ⟨p, 0, none⟩ = false
  f1 : w.frozen? ⟨p, 1, none⟩ = false
theorem Dp.atF {b : Nat} {lf : Int} {loc : ByteArray → Loc} (h : Dp S w g b lf loc d) (hs : nm.size ≤ maxLen) {f : Fl} (hf : find nm d.l = some f) : AtF w g nm b (loc nm).p (loc nm).A f.dt.length (loc nm).c f.kp := by
  obtain ⟨hfm, rfl⟩ := find_mem hf
  have ho := (h.files.one f hfm).head
  refine ⟨h.row.cell 1, ?_, ho.cell 0, ho.cell 1, ho.free 0, ho.free 1⟩
  have := h.map.look f.nm hs
  unfold ptrO at this
  rw [hf] at this
  exact this
/-- .. and where it isn't. -/
theorem Dp.noF {b : Nat} {lf : Int} {loc : ByteArray → Loc} (h : Dp S w g b lf loc d) (hs : nm.size ≤ maxLen) (hf : find nm d.l = none) : (Instr.lookup 57 (.map (some b)) (.string nm) false).run Try.prog w = .ok (.pointer none) w := by
  have := h.map.look nm hs
  unfold ptrO at this
  rw [hf] at this
  exact this
/-- A map's pointer, whatever it is. -/
theorem Dp.someF {b : Nat} {lf : Int} {loc : ByteArray → Loc} (h : Dp S w g b lf loc d) (hs : nm.size ≤ maxLen) : (Instr.lookup 57 (.map (some b)) (.string nm) false).run Try.prog w = .ok (.pointer (ptrO loc d.l nm)) w := h.map.look nm hs
set_option maxRecDepth 100000 in
set_option maxHeartbeats 1000000 in
theorem sync_any (h : Dk S w g d) (hs : nm.size ≤ maxLen) :
    Calls Try.prog 12 #[.pointer (some ⟨g, 0, none⟩), .string nm] w (Chg S w g (synE d nm) (synS d nm)) := by
  obtain ⟨b, lf, loc, h⟩ := h
  have hD : Dk S w g d := ⟨b, lf, loc, h⟩
  have c1 : w.cell? ⟨g, 1, none⟩ = some (.map (some b)) := h.row.cell 1
  have c3 := h.row.cell 3
  unfold synE synS
  cases ho : d.off with
  | true =>
    have H := hide (Chg.same hD 10)
    have hl := h.someF hs
    generalize ptrO loc d.l nm = pp at hl
    rw [ho] at c3
    clear h ho hs hD
    go_enter Try.func12, Try.ntmps12
    go_wp2
    go_ret
    exact H.out
  | false =>
    rw [ho] at c3
    cases hf : find nm d.l with
    | none =>
      have H := hide (Chg.same hD 8)
      have hl := h.noF hs hf
      clear h ho hs hD hf
      go_enter Try.func12, Try.ntmps12
      go_wp2
      go_ret
      exact H.out
    | some f =>
      have hat := h.atF hs hf
      have hl := hat.look
      obtain ⟨hfm, rfl⟩ := find_mem hf
      by_cases h0 : d.left = 0
      · have hP := hide (spend_dp h)
        rw [show d.spends = false from by unfold DS.spends; rw [h0]; rfl] at hP
        have H := hide (fun w2 (k : Dk S w2 g d.spent) (hg : w.grownBy w2 (some g)) => Chg.spent (w := w) k hg h.sg (Below.refl _ _) 10)
        simp only [h0, if_true, Bool.false_eq_true, if_false, Option.isNone_some]
        clear h ho hs hD hf hat h0
        go_enter Try.func12, Try.ntmps12
        go_wp2_with (go_at_call 30; (with_reducible refine hP.out.mono ?_); rintro e w2 ⟨rfl, ⟨m, hD⟩, hg⟩)
        go_ret
        exact H.out _ ⟨_, _, _, hD⟩ hg
      · have hP := hide (spend_dp h)
        rw [show d.spends = true from by unfold DS.spends; simpa using h0] at hP
        simp only [h0, Bool.false_eq_true, if_false, Option.isNone_some]
        have H := hide (show ∀ w2 m, Dp S w2 g b m loc d.spent → w.grownBy w2 (some g) → AtF w2 g f.nm b (loc f.nm).p (loc f.nm).A f.dt.length (loc f.nm).c f.kp ∧
            Chg S w g 0 { d.spent with l := putF ⟨f.nm, f.dt, f.dt.length⟩ d.l } (.returned (.int .i64 0)) (w2.setCell ⟨(loc f.nm).p, 1, none⟩ (.int .i64 f.dt.length)) from by
          intro w2 m h2 hg
          have hl2 : f ∈ d.spent.l := by rw [spent_l]; exact hfm
          have hT : Turn S w w2 := Turn.of_grown (S := S) hg (fun k e => by injection e with e; rw [← e]; exact h.sg)
          refine ⟨h2.atF hs (by rw [spent_l]; exact hf), rfl, ?_⟩
          have hrow := (h2.files.one f hl2).head
          obtain ⟨hD', hT'⟩ := h2.fewer hl2 f.dt.length f.dt.length (Nat.le_refl _) (Nat.le_refl _) (w' := w2.setCell ⟨(loc f.nm).p, 1, none⟩ (.int .i64 f.dt.length)) (grown_put (grown_refl _ _) 1 _) (hrow.put 1 (.int .i64 f.dt.length))
          rw [spent_l, List.take_length] at hD'
          exact ⟨_, hD', ⟨hT.trans hT' (fun k hk => .inl hk), fun k hk => hk.imp id fun e => Nat.le_trans hT.size e.1⟩⟩)
        have hfl := flen h.ok hfm
        generalize (loc f.nm).p = p at *
        generalize (loc f.nm).A = B at *
        generalize (loc f.nm).c = cb at *
        clear h ho hs hD hf hat h0 hfm
        go_enter Try.func12, Try.ntmps12
        go_wp2_with (go_at_call 30; (with_reducible refine hP.out.mono ?_); rintro e w2 ⟨rfl, ⟨m, hD⟩, hg⟩; obtain ⟨hat, hC⟩ := H.out w2 m hD hg; have p0 := hat.p0; have p1 := hat.p1; have f1 := hat.f1; clear hat hD hg H hP)
        go_ret
        exact hC
end
end Go.Proofs.Ytllgjbkmemheoaa
