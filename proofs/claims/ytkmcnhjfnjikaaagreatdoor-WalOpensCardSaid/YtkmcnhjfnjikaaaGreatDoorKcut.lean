/- Sync, Cut of the program's disk; what a file's own cells make. Condition: the name has room. -/
import Derived.Test.YtkmcnhjfnjikaaaGreatDoorKcha
import Derived.Lib.MinMax
namespace Go.Proofs.YtkmcnhjfnjikaaaGreatDoor
open Go.RowKit Go.Maps
theorem own_take {w : World} {A : Option Addr} {n c m : Nat} {zs : List Int} (h : w.ownsRow 0 5 1 (.slice A n c) n (cellsOf zs)) (hm : m ≤ n) : w.ownsRow 0 5 1 (.slice A m c) m (cellsOf (zs.take m)) := by
  have hl : zs.length = n := by have := h.1; rw [length_cellsOf] at this; omega
  refine ⟨by rw [length_cellsOf, List.length_take]; omega, ?_⟩
  rcases h.2 with ⟨hv, h0⟩ | ⟨g, cap, cur, hv, hb, hg, hn, hc, hs, ht⟩
  · injection hv with h1 _ h3
    obtain rfl : m = 0 := by omega
    exact .inl ⟨by rw [h1, h3], rfl⟩
  · injection hv with h1 _ h3
    refine .inr ⟨g, cap, cur, by rw [h1, h3], hb, hg, by omega, hc, hs, ?_⟩
    unfold cellsOf at ht ⊢
    rw [List.map_take, ← ht, List.take_take]
    congr 1; omega
section
variable {S : Nat → Prop} {w w' : World} {g b : Nat} {lf : Int} {loc : ByteArray → Loc} {d : DS}
/-- A file's own cells turn: it has fewer bytes, other ones are kept. -/
theorem Dp.fewer (h : Dp S w g b lf loc d) {f : Fl} (hf : f ∈ d.l) (n k : Nat) (hn : n ≤ f.dt.length) (hk : k ≤ n) (hg : w.grownBy w' (some (loc f.nm).p))
    (hr : Row w' (loc f.nm).p 115 #[.slice (loc f.nm).A n (loc f.nm).c, .int .i64 k]) : Dk (More S w w') w' g { d with l := putF ⟨f.nm, f.dt.take n, k⟩ d.l } ∧ Turn S w w' := by
  have hfo := h.files.one f hf
  have hlen : (f.dt.take n).length = n := by rw [List.length_take]; omega
  have hO : OneF w' (loc f.nm) (f.dt.take n).length k (f.dt.take n) := by
    rw [hlen]
    refine ⟨hr, ?_⟩
    have := own_take hfo.data hn
    refine ⟨this.1, ?_⟩
    rcases this.2 with hv | ⟨q, cap, cur, hv, hb, hh, rest⟩
    · exact .inl hv
    · refine .inr ⟨q, cap, cur, hv, hb, (hg.block q (Array.getElem?_eq_some_iff.1 hh).1 fun e => ?_).trans hh, rest⟩
      injection e with e
      rw [e] at hh
      exact kind_ne hfo.head hh (by decide) rfl
  obtain ⟨hD, hT⟩ := h.upd hf ⟨f.nm, f.dt.take n, k⟩ rfl (loc f.nm) rfl (Turn.of_grown hg (fun q e => by injection e with e; exact .inl e.symm)) hO (fun r hr => .inl hr)
    (dok_put h.ok _ (by show k ≤ (f.dt.take n).length; omega) (h.ok.nm f hf) (fun z hz => h.ok.oct f hf z (List.mem_of_mem_take hz)) (by
      simp only
      rw [find_of_mem h.ok.up hf, hlen]
      simp only [lenO]
      have := h.ok.tot
      omega))
  exact ⟨⟨b, lf, _, hD⟩, hT⟩
end
section
variable {S : Nat → Prop} {w : World} {g : Nat} {d : DS} {nm : ByteArray}
/-- What a call meets behind spend, where the file is there. -/
structure AtF (w : World) (g : Nat) (nm : ByteArray) (b p : Nat) (B : Option Addr) (n cb k : Nat) : Prop where
  c1 : w.cell? ⟨g, 1, none⟩ = some (.map (some b))
  look : (Instr.lookup 74 (.map (some b)) (.string nm) false).run Tryz.prog w = .ok (.pointer (some ⟨p, 0, none⟩)) w
  p0 : w.cell? ⟨p, 0, none⟩ = some (.slice B n cb)
  p1 : w.cell? ⟨p, 1, none⟩ = some (.int .i64 k)
  f0 : w.frozen? ⟨p, 0, none⟩ = false
  f1 : w.frozen? ⟨p, 1, none⟩ = false
theorem Dp.atF {b : Nat} {lf : Int} {loc : ByteArray → Loc} (h : Dp S w g b lf loc d) (hs : nm.size ≤ maxLen) {f : Fl} (hf : find nm d.l = some f) : AtF w g nm b (loc nm).p (loc nm).A f.dt.length (loc nm).c f.kp := by
  obtain ⟨hfm, rfl⟩ := find_mem hf
  have ho := (h.files.one f hfm).head
  refine ⟨h.row.cell 1, ?_, ho.cell 0, ho.cell 1, ho.free 0, ho.free 1⟩
  have := h.map.look f.nm hs
  unfold ptrO at this
  rw [hf] at this
  exact this
/-- .. and where it isn't. -/
theorem Dp.noF {b : Nat} {lf : Int} {loc : ByteArray → Loc} (h : Dp S w g b lf loc d) (hs : nm.size ≤ maxLen) (hf : find nm d.l = none) : (Instr.lookup 74 (.map (some b)) (.string nm) false).run Tryz.prog w = .ok (.pointer none) w := by
  have := h.map.look nm hs
  unfold ptrO at this
  rw [hf] at this
  exact this
/-- A map's pointer, whatever it is. -/
theorem Dp.someF {b : Nat} {lf : Int} {loc : ByteArray → Loc} (h : Dp S w g b lf loc d) (hs : nm.size ≤ maxLen) : (Instr.lookup 74 (.map (some b)) (.string nm) false).run Tryz.prog w = .ok (.pointer (ptrO loc d.l nm)) w := h.map.look nm hs
set_option maxRecDepth 100000 in
set_option maxHeartbeats 1000000 in
theorem sync_any (h : Dk S w g d) (hs : nm.size ≤ maxLen) :
    Calls Tryz.prog 81 #[.pointer (some ⟨g, 0, none⟩), .string nm] w (Chg S w g (synE d nm) (synS d nm)) := by
  obtain ⟨b, lf, loc, h⟩ := h
  have hD : Dk S w g d := ⟨b, lf, loc, h⟩
  have c1 : w.cell? ⟨g, 1, none⟩ = some (.map (some b)) := h.row.cell 1
  have c3 := h.row.cell 3
  unfold synE synS
  cases ho : d.off with
  | true =>
    have H := hide (Chg.same hD 10)
    have hl := h.someF hs
    generalize ptrO loc d.l nm = pp at hl
    rw [ho] at c3
    clear h ho hs hD
    go_enter Tryz.func81, Tryz.ntmps81
    go_wp2
    go_ret
    exact H.out
  | false =>
    rw [ho] at c3
    cases hf : find nm d.l with
    | none =>
      have H := hide (Chg.same hD 8)
      have hl := h.noF hs hf
      clear h ho hs hD hf
      go_enter Tryz.func81, Tryz.ntmps81
      go_wp2
      go_ret
      exact H.out
    | some f =>
      have hat := h.atF hs hf
      have hl := hat.look
      obtain ⟨hfm, rfl⟩ := find_mem hf
      by_cases h0 : d.left = 0
      · have hP := hide (spend_dp h)
        rw [show d.spends = false from by unfold DS.spends; rw [h0]; rfl] at hP
        have H := hide (fun w2 (k : Dk S w2 g d.spent) (hg : w.grownBy w2 (some g)) => Chg.spent (w := w) k hg h.sg (Below.refl _ _) 10)
        simp only [h0, if_true, Bool.false_eq_true, if_false, Option.isNone_some]
        clear h ho hs hD hf hat h0
        go_enter Tryz.func81, Tryz.ntmps81
        go_wp2_with (go_at_call 64; (with_reducible refine hP.out.mono ?_); rintro e w2 ⟨rfl, ⟨m, hD⟩, hg⟩)
        go_ret
        exact H.out _ ⟨_, _, _, hD⟩ hg
      · have hP := hide (spend_dp h)
        rw [show d.spends = true from by unfold DS.spends; simpa using h0] at hP
        simp only [h0, Bool.false_eq_true, if_false, Option.isNone_some]
        have H := hide (show ∀ w2 m, Dp S w2 g b m loc d.spent → w.grownBy w2 (some g) → AtF w2 g f.nm b (loc f.nm).p (loc f.nm).A f.dt.length (loc f.nm).c f.kp ∧
            Chg S w g 0 { d.spent with l := putF ⟨f.nm, f.dt, f.dt.length⟩ d.l } (.returned (.int .i64 0)) (w2.setCell ⟨(loc f.nm).p, 1, none⟩ (.int .i64 f.dt.length)) from by
          intro w2 m h2 hg
          have hl2 : f ∈ d.spent.l := by rw [spent_l]; exact hfm
          have hT : Turn S w w2 := Turn.of_grown (S := S) hg (fun k e => by injection e with e; rw [← e]; exact h.sg)
          refine ⟨h2.atF hs (by rw [spent_l]; exact hf), rfl, ?_⟩
          have hrow := (h2.files.one f hl2).head
          obtain ⟨hD', hT'⟩ := h2.fewer hl2 f.dt.length f.dt.length (Nat.le_refl _) (Nat.le_refl _) (w' := w2.setCell ⟨(loc f.nm).p, 1, none⟩ (.int .i64 f.dt.length)) (grown_put (grown_refl _ _) 1 _) (hrow.put 1 (.int .i64 f.dt.length))
          rw [spent_l, List.take_length] at hD'
          exact ⟨_, hD', ⟨hT.trans hT' (fun k hk => .inl hk), fun k hk => hk.imp id fun e => Nat.le_trans hT.size e.1⟩⟩)
        have hfl := flen h.ok hfm
        generalize (loc f.nm).p = p at *
        generalize (loc f.nm).A = B at *
        generalize (loc f.nm).c = cb at *
        clear h ho hs hD hf hat h0 hfm
        go_enter Tryz.func81, Tryz.ntmps81
        go_wp2_with (go_at_call 64; (with_reducible refine hP.out.mono ?_); rintro e w2 ⟨rfl, ⟨m, hD⟩, hg⟩; obtain ⟨hat, hC⟩ := H.out w2 m hD hg; have p0 := hat.p0; have p1 := hat.p1; have f1 := hat.f1; clear hat hD hg H hP)
        go_ret
        exact hC
end
end Go.Proofs.YtkmcnhjfnjikaaaGreatDoor
/- Cut of the program's disk. Conditions: the name has room, the number is an int. -/
namespace Go.Proofs.YtkmcnhjfnjikaaaGreatDoor
open Go.RowKit Go.Maps
section
variable {S : Nat → Prop} {w : World} {g : Nat} {d : DS} {nm : ByteArray}
set_option maxRecDepth 100000 in
set_option maxHeartbeats 1000000 in
theorem cut_any (h : Dk S w g d) (hs : nm.size ≤ maxLen) (n : Int) (hn : -9223372036854775808 ≤ n ∧ n ≤ 9223372036854775807) :
    Calls Tryz.prog 78 #[.pointer (some ⟨g, 0, none⟩), .string nm, .int .i64 n] w (Chg S w g (cutE d nm n) (cutS d nm n)) := by
  obtain ⟨b, lf, loc, h⟩ := h
  have hD : Dk S w g d := ⟨b, lf, loc, h⟩
  have c1 : w.cell? ⟨g, 1, none⟩ = some (.map (some b)) := h.row.cell 1
  have c3 := h.row.cell 3
  unfold cutE cutS
  cases ho : d.off with
  | true =>
    have H := hide (Chg.same hD 10)
    have hl := h.someF hs
    generalize ptrO loc d.l nm = pp at hl
    rw [ho] at c3
    clear h ho hs hD
    go_enter Tryz.func78, Tryz.ntmps78
    go_wp2
    go_ret
    exact H.out
  | false =>
    rw [ho] at c3
    cases hf : find nm d.l with
    | none =>
      have H := hide (Chg.same hD 8)
      have hl := h.noF hs hf
      clear h ho hs hD hf
      go_enter Tryz.func78, Tryz.ntmps78
      go_wp2
      go_ret
      exact H.out
    | some f =>
      have hat := h.atF hs hf
      have hl := hat.look
      have p0 := hat.p0
      obtain ⟨hfm, rfl⟩ := find_mem hf
      have hfl := flen h.ok hfm
      have hle := (h.files.one f hfm).le
      by_cases hb : n < 0 ∨ (f.dt.length : Int) < n
      · simp only [hb, if_true, Bool.false_eq_true, if_false]
        have H := hide (Chg.same hD 1)
        generalize (loc f.nm).p = p at *
        generalize (loc f.nm).A = B at *
        generalize (loc f.nm).c = cb at *
        clear h ho hs hD hf hat hfm
        rcases hb with hb | hb
        · go_enter Tryz.func78, Tryz.ntmps78
          go_wp2
          go_ret
          exact H.out
        · have hb' : ¬ n < 0 := by omega
          go_enter Tryz.func78, Tryz.ntmps78
          go_wp2
          go_ret
          exact H.out
      by_cases h0 : d.left = 0
      · have hP := hide (spend_dp h)
        rw [show d.spends = false from by unfold DS.spends; rw [h0]; rfl] at hP
        have H := hide (fun w2 (k : Dk S w2 g d.spent) (hg : w.grownBy w2 (some g)) => Chg.spent (w := w) k hg h.sg (Below.refl _ _) 10)
        simp only [hb, h0, if_true, Bool.false_eq_true, if_false]
        have hb1 : ¬ n < 0 := by omega
        have hb2 : ¬ (f.dt.length : Int) < n := by omega
        clear h ho hs hD hf hat h0 hb
        go_enter Tryz.func78, Tryz.ntmps78
        go_wp2_with (go_at_call 64; (with_reducible refine hP.out.mono ?_); rintro e w2 ⟨rfl, ⟨m, hD⟩, hg⟩)
        go_ret
        exact H.out _ ⟨_, _, _, hD⟩ hg
      · have hP := hide (spend_dp h)
        rw [show d.spends = true from by unfold DS.spends; simpa using h0] at hP
        simp only [hb, h0, Bool.false_eq_true, if_false]
        obtain ⟨k, rfl⟩ : ∃ k : Nat, n = k := ⟨n.toNat, by omega⟩
        simp only [Int.toNat_natCast]
        have H := hide (show ∀ w2 m, Dp S w2 g b m loc d.spent → w.grownBy w2 (some g) → AtF w2 g f.nm b (loc f.nm).p (loc f.nm).A f.dt.length (loc f.nm).c f.kp ∧
            Chg S w g 0 { d.spent with l := putF ⟨f.nm, f.dt.take k, min f.kp k⟩ d.l } (.returned (.int .i64 0)) ((w2.setCell ⟨(loc f.nm).p, 0, none⟩ (.slice (loc f.nm).A k (loc f.nm).c)).setCell ⟨(loc f.nm).p, 1, none⟩ (.int .i64 (min f.kp k : Nat))) from by
          intro w2 m h2 hg
          have hl2 : f ∈ d.spent.l := by rw [spent_l]; exact hfm
          have hT : Turn S w w2 := Turn.of_grown (S := S) hg (fun k e => by injection e with e; rw [← e]; exact h.sg)
          refine ⟨h2.atF hs (by rw [spent_l]; exact hf), rfl, ?_⟩
          have hrow := (h2.files.one f hl2).head
          obtain ⟨hD', hT'⟩ := h2.fewer hl2 k (min f.kp k) (by omega) (by omega) (w' := (w2.setCell ⟨(loc f.nm).p, 0, none⟩ (.slice (loc f.nm).A k (loc f.nm).c)).setCell ⟨(loc f.nm).p, 1, none⟩ (.int .i64 (min f.kp k : Nat))) (grown_put (grown_put (grown_refl _ _) 0 _) 1 _) ((hrow.put 0 _).put 1 _)
          rw [spent_l] at hD'
          exact ⟨_, hD', ⟨hT.trans hT' (fun k hk => .inl hk), fun k hk => hk.imp id fun e => Nat.le_trans hT.size e.1⟩⟩)
        have hkp := h.ok.kp f hfm
        have hk : k ≤ f.dt.length := by omega
        have hB := (h.files.one f hfm).nil
        generalize (loc f.nm).p = p at *
        generalize (loc f.nm).A = B at *
        generalize (loc f.nm).c = cb at *
        have hb1 : ¬ (k : Int) < 0 := by omega
        have hb2 : ¬ (f.dt.length : Int) < (k : Int) := by omega
        have hmin : ((min f.kp k : Nat) : Int) = min (f.kp : Int) (k : Int) := by omega
        have HM := hide hmin
        clear h ho hs hD hf hat h0 hfm hb hmin
        go_enter Tryz.func78, Tryz.ntmps78
        go_wp2_with (go_at_call 64; (with_reducible refine hP.out.mono ?_); rintro e w2 ⟨rfl, ⟨m, hD⟩, hg⟩; obtain ⟨hat, hC⟩ := H.out w2 m hD hg; have p0 := hat.p0; have p1 := hat.p1; have f0 := hat.f0; have f1 := hat.f1; clear hat hD hg H hP)
        rw [HM.out] at hC
        go_ret
        exact hC
end
end Go.Proofs.YtkmcnhjfnjikaaaGreatDoor
/- Remove, Rename of the program's disk. Condition: the names have room. -/
namespace Go.Proofs.YtkmcnhjfnjikaaaGreatDoor
open Go.RowKit Go.Maps
section
variable {S : Nat → Prop} {w w' : World} {g b : Nat} {lf : Int} {loc : ByteArray → Loc} {d : DS} {nm tto : ByteArray}
/-- A name struck out of the map. -/
theorem Dp.struck (h : Dp S w g b lf loc d) (nm : ByteArray) (hg : w.grownBy w' (some b)) (hm : MapIs w' b (delF nm d.l) loc) : Dp S w' g b lf loc { d with l := delF nm d.l } := by
  have stay : ∀ {k : Nat} {cs : Array Value} {t : TypeId} {fr : Nat × Nat}, w.heap[k]? = some (.cells cs t fr) → w'.heap[k]? = w.heap[k]? := fun {k cs t fr} hk => by
    refine hg.block k (Array.getElem?_eq_some_iff.1 hk).1 fun e => ?_
    obtain ⟨D, ⟨es, c, hb, _⟩, _⟩ := h.map
    injection e with e
    rw [e, hb] at hk; cases hk
  refine ⟨dok_del h.ok nm, fun k hk => Nat.lt_of_lt_of_le (h.lt k hk) hg.size, (stay h.row).trans h.row, h.lf, h.sg, h.sb, hm, (h.files.del nm).kept (fun _ k => k) (fun y hy => stay (h.files.one y (mem_delF.1 hy).1).head) (fun y hy r hr => ?_)⟩
  obtain ⟨cur, hc⟩ := (h.files.one y (mem_delF.1 hy).1).block hr
  exact stay hc
/-- 'delete(files, name)' at the operation. -/
theorem wpList_strike {ops : Array Oper} {rest : List Oper} {o : Oper} {a : Act} {Q : Exit → Act → World → Prop} (hgd : o.guard = none) (m x : Operand) (hop : o.op = Op.call { callee := Callee.builtin Builtin.delete, args := #[m, x], argTypes := #[74, 9] })
    (h : Dp S w g b lf loc d) (hs : nm.size ≤ maxLen) (hm : a.eval m = .map (some b)) (hx : a.eval x = .string nm)
    (hK : ∀ w', Dp S w' g b lf loc { d with l := delF nm d.l } → w.grownBy w' (some b) → wpList Tryz.prog ops Q rest (a.put o.dst (.tuple #[])) w') : wpList Tryz.prog ops Q (o :: rest) a w := by
  obtain ⟨D, hD, hz, hmm⟩ := h.map
  have ht := hD.tidy law
  refine wpList_delete_own w hgd m x 74 9 hop 101 law Tryz.underlying74 ptrElem b d.l.length D hm hD (.string nm) (kl nm) hx (key_of hs) fun w' hD' hturn => ?_
  have hg := hturn.grown
  exact hK w' (h.struck nm hg (MapIs.strike h.ok.up ht hz hmm hD')) hg
set_option maxRecDepth 100000 in
set_option maxHeartbeats 1000000 in
theorem remove_any (h : Dk S w g d) (hs : nm.size ≤ maxLen) :
    Calls Tryz.prog 80 #[.pointer (some ⟨g, 0, none⟩), .string nm] w (Chg S w g (remE d nm) (remS d nm)) := by
  obtain ⟨b, lf, loc, h⟩ := h
  have hD : Dk S w g d := ⟨b, lf, loc, h⟩
  have c1 : w.cell? ⟨g, 1, none⟩ = some (.map (some b)) := h.row.cell 1
  have c3 := h.row.cell 3
  unfold remE remS
  cases ho : d.off with
  | true =>
    have H := hide (Chg.same hD 10)
    rw [ho] at c3
    clear h ho hs hD
    go_enter Tryz.func80, Tryz.ntmps80
    go_wp2
    go_ret
    exact H.out
  | false =>
    rw [ho] at c3
    cases hf : find nm d.l with
    | none =>
      have H := hide (Chg.same hD 8)
      have hl := h.noF hs hf
      clear h ho hs hD hf
      go_enter Tryz.func80, Tryz.ntmps80
      go_wp2
      go_ret
      exact H.out
    | some f =>
      have hat := h.atF hs hf
      have hl := hat.look
      by_cases h0 : d.left = 0
      · have hP := hide (spend_dp h)
        rw [show d.spends = false from by unfold DS.spends; rw [h0]; rfl] at hP
        have H := hide (fun w2 (k : Dk S w2 g d.spent) (hg : w.grownBy w2 (some g)) => Chg.spent (w := w) k hg h.sg (Below.refl _ _) 10)
        simp only [h0, if_true, Bool.false_eq_true, if_false, Option.isNone_some]
        clear h ho hs hD hf hat h0
        go_enter Tryz.func80, Tryz.ntmps80
        go_wp2_with (go_at_call 64; (with_reducible refine hP.out.mono ?_); rintro e w2 ⟨rfl, ⟨m, hD⟩, hg⟩)
        go_ret
        exact H.out _ ⟨_, _, _, hD⟩ hg
      · have hP := hide (spend_dp h)
        rw [show d.spends = true from by unfold DS.spends; simpa using h0] at hP
        simp only [h0, Bool.false_eq_true, if_false, Option.isNone_some]
        have H := hide (show ∀ w2 w3 m, w.grownBy w2 (some g) → Dp S w3 g b m loc { d.spent with l := delF nm d.spent.l } → w2.grownBy w3 (some b) → Chg S w g 0 { d.spent with l := delF nm d.l } (.returned (.int .i64 0)) w3 from by
          intro w2 w3 m hg h3 hg3
          rw [spent_l] at h3
          refine ⟨rfl, S, ⟨_, _, _, h3⟩, ⟨(Turn.of_grown (S := S) hg (fun k e => by injection e with e; rw [← e]; exact h.sg)).trans (Turn.of_grown (S := S) hg3 (fun k e => by injection e with e; rw [← e]; exact h.sb)) (fun k hk => .inl hk), fun k hk => .inl hk⟩⟩)
        clear h ho hD hf hat h0
        go_enter Tryz.func80, Tryz.ntmps80
        go_wp2_with (first
          | (go_at_call 64; (with_reducible refine hP.out.mono ?_); rintro e w2 ⟨rfl, ⟨m, hD⟩, hg⟩; have d1 : w2.cell? ⟨g, 1, none⟩ = some (.map (some b)) := hD.row.cell 1; have HD := hide hD; clear hD hP)
          | (at_delete; refine wpList_strike rfl _ _ rfl HD.out hs rfl rfl ?_; intro w3 h3 hg3; have HC := hide (H.out w2 w3 m hg h3 hg3); clear h3 hg3 hg H HD))
        go_ret
        exact HC.out
end
end Go.Proofs.YtkmcnhjfnjikaaaGreatDoor
/- Rename of the program's disk. Condition: the names have room. -/
namespace Go.Proofs.YtkmcnhjfnjikaaaGreatDoor
open Go.RowKit Go.Maps
section
variable {S : Nat → Prop} {w w' : World} {g b : Nat} {lf : Int} {loc : ByteArray → Loc} {d : DS} {nm tto : ByteArray}
/-- A file that was struck out comes under another name. -/
theorem Dp.renamed {w2 w3 : World} (h : Dp S w2 g b lf loc d) {f : Fl} (hf : f ∈ d.l) (h3 : Dp S w3 g b lf loc { d with l := delF f.nm d.l }) (hg : w2.grownBy w3 (some b)) (hn : nameB tto = true) (hl : d.l.length < 9000000000) :
    ∃ w4, (Instr.mapUpdate 74 (.map (some b)) (.string tto) (.pointer (some ⟨(loc f.nm).p, 0, none⟩))).run Tryz.prog w3 = .ok () w4 ∧ Dk S w4 g { d with l := putF ⟨tto, f.dt, f.kp⟩ (delF f.nm d.l) } ∧ Turn S w2 w4 := by
  have hsz := (name_size hn).2
  have hln : (delF f.nm d.l).length ≤ d.l.length := List.length_filter_le _ _
  obtain ⟨w4, hr, hm, hg4⟩ := h3.map.put h3.ok.up (by unfold maxLen; simp only; omega) ⟨tto, f.dt, f.kp⟩ (loc f.nm) (by unfold maxLen; simp only; omega)
  have stay : ∀ {k : Nat} {cs : Array Value} {t : TypeId} {fr : Nat × Nat}, w2.heap[k]? = some (.cells cs t fr) → w3.heap[k]? = w2.heap[k]? := fun {k cs t fr} hk => by
    refine hg.block k (Array.getElem?_eq_some_iff.1 hk).1 fun e => ?_
    obtain ⟨D, ⟨es, c, hb, _⟩, _⟩ := h.map
    injection e with e
    rw [e, hb] at hk; cases hk
  have hfo := h.files.one f hf
  have ho : OneF w3 (loc f.nm) f.dt.length f.kp f.dt := hfo.kept (stay hfo.head) (fun r hr => by obtain ⟨cur, hc⟩ := hfo.block hr; exact stay hc)
  have htot := total_delF f.nm d.l h.ok.up
  rw [find_of_mem h.ok.up hf] at htot
  simp only [lenO] at htot
  have hadd := h3.add ⟨tto, f.dt, f.kp⟩ (loc f.nm) (T := S) (fun k hk => hk) h3.lt ho
    (fun y hy _ e => (mem_delF.1 hy).2 (h.files.inj y (mem_delF.1 hy).1 f hf e)) (fun y hy _ r hr e => (mem_delF.1 hy).2 (h.files.apart y (mem_delF.1 hy).1 f hf r hr e))
    (h.files.inp f hf) (h.files.inr f hf) hg4 hm
    (dok_put h3.ok _ (h.ok.kp f hf) hn (h.ok.oct f hf) (by have := h.ok.tot; simp only; omega))
  exact ⟨w4, hr, ⟨_, _, _, hadd⟩, (Turn.of_grown (S := S) hg (fun k e => by injection e with e; rw [← e]; exact h.sb)).trans (Turn.of_grown (S := S) hg4 (fun k e => by injection e with e; rw [← e]; exact h.sb)) (fun k hk => .inl hk)⟩
end
end Go.Proofs.YtkmcnhjfnjikaaaGreatDoor
