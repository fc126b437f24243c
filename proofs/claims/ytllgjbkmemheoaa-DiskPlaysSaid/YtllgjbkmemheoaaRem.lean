/- Remove, Rename of the program's disk. Condition: the names have room. -/
import Derived.Test.YtllgjbkmemheoaaSync
namespace Go.Proofs.Ytllgjbkmemheoaa
open Go.RowKit Go.Maps
section
variable {S : Nat → Prop} {w w' : World} {g b : Nat} {lf : Int} {loc : ByteArray → Loc} {d : DS} {nm to : ByteArray}
/-- A name struck out of the map. -/
theorem Dp.struck (h : Dp S w g b lf loc d) (nm : ByteArray) (hg : w.grownBy w' (some b)) (hm : MapIs w' b (delF nm d.l) loc) : Dp S w' g b lf loc { d with l := delF nm d.l } := by
  have stay : ∀ {k : Nat} {cs : Array Value} {t : TypeId} {fr : Nat × Nat}, w.heap[k]? = some (.cells cs t fr) → w'.heap[k]? = w.heap[k]? := fun {k cs t fr} hk => by
    refine hg.block k (Array.getElem?_eq_some_iff.1 hk).1 fun e => ?_
    obtain ⟨D, ⟨es, c, hb, _⟩, _⟩ := h.map
    injection e with e
    rw [e, hb] at hk; cases hk
  refine ⟨dok_del h.ok nm, fun k hk => Nat.lt_of_lt_of_le (h.lt k hk) hg.size, (stay h.row).trans h.row, h.lf, h.sg, h.sb, hm, (h.files.del nm).kept (fun _ k => k) (fun y hy => stay (h.files.one y (mem_delF.1 hy).1).head) (fun y hy r hr => ?_)⟩
  obtain ⟨cur, hc⟩ := (h.files.one y (mem_delF.1 hy).1).block hr
  exact stay hc
/-- 'delete(files, name)' at the operation. -/
theorem wpList_strike {ops : Array Oper} {rest : List Oper} {o : Oper} {a : Act} {Q : Exit → Act → World → Prop} (hgd : o.guard = none) (m x : Operand) (hop : o.op = Op.call { callee := Callee.builtin Builtin.delete, args := #[m, x], argTypes := #[57, 9] })
    (h : Dp S w g b lf loc d) (hs : nm.size ≤ maxLen) (hm : a.eval m = .map (some b)) (hx : a.eval x = .string nm)
    (hK : ∀ w', Dp S w' g b lf loc { d with l := delF nm d.l } → w.grownBy w' (some b) → wpList Try.prog ops Q rest (a.put o.dst (.tuple #[])) w') : wpList Try.prog ops Q (o :: rest) a w := by
  obtain ⟨D, hD, hz, hmm⟩ := h.map
  have ht := hD.tidy law
  refine wpList_delete_own w hgd m x 57 9 hop 60 law Try.underlying57 ptrElem b d.l.length D hm hD (.string nm) (kl nm) hx (key_of hs) fun w' hD' hturn => ?_
  have hg := hturn.grown
  exact hK w' (h.struck nm hg (MapIs.strike h.ok.up ht hz hmm hD')) hg
set_option maxRecDepth 100000 in
set_option maxHeartbeats 1000000 in
theorem remove_any (h : Dk S w g d) (hs : nm.size ≤ maxLen) :
    Calls Try.prog 22 #[.pointer (some ⟨g, 0, none⟩), .string nm] w (Chg S w g (remE d nm) (remS d nm)) := by
  obtain ⟨b, lf, loc, h⟩ := h
  have hD : Dk S w g d := ⟨b, lf, loc, h⟩
  have c1 : w.cell? ⟨g, 1, none⟩ = some (.map (some b)) := h.row.cell 1
  have c3 := h.row.cell 3
  unfold remE remS
  cases ho : d.off with
  | true =>
    have H := hide (Chg.same hD 10)
    rw [ho] at c3
    clear h ho hs hD
    go_enter Try.func22, Try.ntmps22
    go_wp2
    go_ret
    exact H.out
  | false =>
    rw [ho] at c3
    cases hf : find nm d.l with
    | none =>
      have H := hide (Chg.same hD 8)
      have hl := h.noF hs hf
      clear h ho hs hD hf
      go_enter Try.func22, Try.ntmps22
      go_wp2
      go_ret
      exact H.out
    | some f =>
      have hat := h.atF hs hf
      have hl := hat.look
      by_cases h0 : d.left = 0
      · have hP := hide (spend_dp h)
        rw [show d.spends = false from by unfold DS.spends; rw [h0]; rfl] at hP
        have H := hide (fun w2 (k : Dk S w2 g d.spent) (hg : w.grownBy w2 (some g)) => Chg.spent (w := w) k hg h.sg (Below.refl _ _) 10)
        simp only [h0, if_true, Bool.false_eq_true, if_false, Option.isNone_some]
        clear h ho hs hD hf hat h0
        go_enter Try.func22, Try.ntmps22
        go_wp2_with (go_at_call 30; (with_reducible refine hP.out.mono ?_); rintro e w2 ⟨rfl, ⟨m, hD⟩, hg⟩)
        go_ret
        exact H.out _ ⟨_, _, _, hD⟩ hg
      · have hP := hide (spend_dp h)
        rw [show d.spends = true from by unfold DS.spends; simpa using h0] at hP
        simp only [h0, Bool.false_eq_true, if_false, Option.isNone_some]
        have H := hide (show ∀ w2 w3 m, w.grownBy w2 (some g) → Dp S w3 g b m loc { d.spent with l := delF nm d.spent.l } → w2.grownBy w3 (some b) → Chg S w g 0 { d.spent with l := delF nm d.l } (.returned (.int .i64 0)) w3 from by
          intro w2 w3 m hg h3 hg3
          rw [spent_l] at h3
          refine ⟨rfl, S, ⟨_, _, _, h3⟩, ⟨(Turn.of_grown (S := S) hg (fun k e => by injection e with e; rw [← e]; exact h.sg)).trans (Turn.of_grown (S := S) hg3 (fun k e => by injection e with e; rw [← e]; exact h.sb)) (fun k hk => .inl hk), fun k hk => .inl hk⟩⟩)
        clear h ho hD hf hat h0
        go_enter Try.func22, Try.ntmps22
        go_wp2_with (first
          | (go_at_call 30; (with_reducible refine hP.out.mono ?_); rintro e w2 ⟨rfl, ⟨m, hD⟩, hg⟩; have d1 : w2.cell? ⟨g, 1, none⟩ = some (.map (some b)) := hD.row.cell 1; have HD := hide hD; clear hD hP)
          | (at_delete; refine wpList_strike rfl _ _ rfl HD.out hs rfl rfl ?_; intro w3 h3 hg3; have HC := hide (H.out w2 w3 m hg h3 hg3); clear h3 hg3 hg H HD))
        go_ret
        exact HC.out
end
end Go.Proofs.Ytllgjbkmemheoaa
