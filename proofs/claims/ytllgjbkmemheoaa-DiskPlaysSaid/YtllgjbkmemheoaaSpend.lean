/- New, spend, Arm, Off of the program's disk. Condition: a number that an int holds. -/
import Derived.Test.YtllgjbkmemheoaaDisk
import Derived.WalkKit
import Derived.WalkSpells
import Derived.WalkLawsBesides
namespace Go.Proofs.Ytllgjbkmemheoaa
open Go.RowKit Go.Maps
section
variable {S : Nat → Prop} {w w' : World} {g b : Nat} {lf : Int} {loc : ByteArray → Loc} {d : DS}
theorem dok_spent (h : DOk d) : DOk d.spent := by
  unfold DS.spent
  have := h.left
  split
  · exact ⟨h.up, h.q, h.tot, h.kp, h.nm, h.oct, h.left⟩
  · split
    · refine ⟨h.up, h.q, h.tot, h.kp, h.nm, h.oct, ?_⟩
      simp only; omega
    · exact h
theorem spent_l (d : DS) : d.spent.l = d.l := by
  unfold DS.spent
  split
  · rfl
  · split <;> rfl
theorem spent_q (d : DS) : d.spent.q = d.q := by
  unfold DS.spent
  split
  · rfl
  · split <;> rfl
/-- What stays where the disk's own cells alone turn. -/
theorem Dp.cells (h : Dp S w g b lf loc d) {e : DS} {m : Int} (hw : w.grownBy w' (some g)) (hr : Row w' g 59 #[.int .i64 e.q, .map (some b), .int .i64 m, .bool e.off]) (hm : max m (-1) = e.left ∧ -9223372036854775808 ≤ m ∧ m ≤ 9223372036854775807) (hl : e.l = d.l) (hk : DOk e) : Dp S w' g b m loc e := by
  refine ⟨hk, fun k hk => Nat.lt_of_lt_of_le (h.lt k hk) hw.size, hr, hm, h.sg, h.sb, ?_, ?_⟩
  · rw [hl]; exact h.map.kept (hw.block b (h.lt b h.sb) (fun e => h.map.ne h.row (Option.some.inj e).symm))
  · rw [hl]
    refine h.files.kept (fun _ k => k) (fun x hx => hw.block _ (h.files_lt hx).1 (fun e => h.ne hx (Option.some.inj e))) (fun x hx r hr2 => hw.block r ((h.files_lt hx).2 r hr2) (fun e => ?_))
    obtain rfl := Option.some.inj e
    have h1 := (h.files.one x hx).data
    rcases h1.2 with ⟨hv, _⟩ | ⟨q, cap, cur, hv, _, hg, _⟩
    · injection hv with hA; unfold Loc.A at hA; rw [hr2] at hA; cases hA
    · injection hv with hA; unfold Loc.A at hA; rw [hr2] at hA; injection hA with hA; injection hA with hA
      have h2 := h.row
      unfold Row at h2
      rw [← hA, h2] at hg
      injection hg with hg; injection hg with _ hg
      exact absurd hg (by decide)
end
set_option maxHeartbeats 1000000 in
theorem spend_dp {S : Nat → Prop} {g b : Nat} {lf : Int} {loc : ByteArray → Loc} {d : DS} {w : World} (h : Dp S w g b lf loc d) :
    Calls Try.prog 30 #[.pointer (some ⟨g, 0, none⟩)] w fun e w' => e = .returned (.bool d.spends) ∧ (∃ m, Dp S w' g b m loc d.spent) ∧ w.grownBy w' (some g) := by
  have hlf := h.lf
  have c2 : w.cell? ⟨g, 2, none⟩ = some (.int .i64 lf) := h.row.cell 2
  have f2 : w.frozen? ⟨g, 2, none⟩ = false := h.row.free 2
  have f3 : w.frozen? ⟨g, 3, none⟩ = false := h.row.free 3
  have c3 : w.cell? ⟨g, 3, none⟩ = some (.bool d.off) := h.row.cell 3
  by_cases h0 : lf = 0
  · subst h0
    have hd : d.left = 0 := by have := hlf.1; omega
    have H := hide (show DS.spends d = false ∧ (∃ m, Dp S (w.setCell ⟨g, 3, none⟩ (.bool true)) g b m loc d.spent) ∧ w.grownBy (w.setCell ⟨g, 3, none⟩ (.bool true)) (some g) from by
      have hg := grown_put (grown_refl w (some g)) 3 (.bool true)
      refine ⟨by unfold DS.spends; rw [hd]; rfl, ⟨0, h.cells hg ?_ ?_ (spent_l d) (dok_spent h.ok)⟩, hg⟩
      · rw [show d.spent = { d with off := true } from by unfold DS.spent; rw [if_pos hd]]
        exact h.row.put 3 (.bool true)
      · rw [show d.spent = { d with off := true } from by unfold DS.spent; rw [if_pos hd]]
        exact hlf)
    clear h hlf hd
    go_enter Try.func30, Try.ntmps30
    go_wp2
    go_ret
    exact ⟨ret_bool H.out.1.symm, H.out.2⟩
  · by_cases h1 : 0 < lf
    · have hd : d.left = lf := by have := hlf.1; omega
      have H := hide (show DS.spends d = true ∧ (∃ m, Dp S (w.setCell ⟨g, 2, none⟩ (.int .i64 (lf - 1))) g b m loc d.spent) ∧ w.grownBy (w.setCell ⟨g, 2, none⟩ (.int .i64 (lf - 1))) (some g) from by
        have hg := grown_put (grown_refl w (some g)) 2 (.int .i64 (lf - 1))
        have e : d.spent = { d with left := lf - 1 } := by unfold DS.spent; rw [if_neg (by omega), if_pos (by omega), hd]
        refine ⟨by unfold DS.spends; rw [hd]; simpa using h0, ⟨lf - 1, h.cells hg ?_ ?_ (spent_l d) (dok_spent h.ok)⟩, hg⟩
        · rw [e]; exact h.row.put 2 (.int .i64 (lf - 1))
        · rw [e]; simp only; omega)
      have hlo := hlf.2
      clear h hlf hd
      go_enter Try.func30, Try.ntmps30
      go_wp2
      go_ret
      exact ⟨ret_bool H.out.1.symm, H.out.2⟩
    · have hd : d.left = -1 := by have := hlf.1; omega
      have H := hide (show DS.spends d = true ∧ (∃ m, Dp S w g b m loc d.spent) ∧ w.grownBy w (some g) from by
        have e : d.spent = d := by unfold DS.spent; rw [if_neg (by omega), if_neg (by omega)]
        exact ⟨by unfold DS.spends; rw [hd]; rfl, e.symm ▸ ⟨lf, h⟩, grown_refl _ _⟩)
      have hlo := hlf.2
      clear h hlf hd
      go_enter Try.func30, Try.ntmps30
      go_wp2
      go_ret
      exact ⟨ret_bool H.out.1.symm, H.out.2⟩
theorem spend_any {S : Nat → Prop} (g : Nat) (d : DS) (w : World) (h : Dk S w g d) :
    Calls Try.prog 30 #[.pointer (some ⟨g, 0, none⟩)] w fun e w' => e = .returned (.bool d.spends) ∧ Dk S w' g d.spent ∧ w.grownBy w' (some g) := by
  obtain ⟨b, lf, loc, h⟩ := h
  exact (spend_dp h).mono fun e w' ⟨h1, ⟨m, h2⟩, h3⟩ => ⟨h1, ⟨b, m, loc, h2⟩, h3⟩
theorem dok_arm {d : DS} (h : DOk d) (n : Int) (hn : n ≤ 9223372036854775807) : DOk (armS d n) :=
  ⟨h.up, h.q, h.tot, h.kp, h.nm, h.oct, by unfold armS; simp only; omega⟩
set_option maxHeartbeats 1000000 in
theorem arm_any {S : Nat → Prop} (g : Nat) (n : Int) (d : DS) (w : World) (h : Dk S w g d) (hn : -9223372036854775808 ≤ n ∧ n ≤ 9223372036854775807) :
    Calls Try.prog 15 #[.pointer (some ⟨g, 0, none⟩), .int .i64 n] w fun e w' => e = .returned (.tuple #[]) ∧ Dk S w' g (armS d n) ∧ w.grownBy w' (some g) := by
  obtain ⟨b, lf, loc, h⟩ := h
  have c2 : w.cell? ⟨g, 2, none⟩ = some (.int .i64 lf) := h.row.cell 2
  have f2 : w.frozen? ⟨g, 2, none⟩ = false := h.row.free 2
  have hg := grown_put (grown_refl w (some g)) 2 (.int .i64 n)
  have H := hide (show Dk S (w.setCell ⟨g, 2, none⟩ (.int .i64 n)) g (armS d n) ∧ w.grownBy (w.setCell ⟨g, 2, none⟩ (.int .i64 n)) (some g) from
    ⟨⟨b, n, loc, h.cells (e := armS d n) (m := n) hg (h.row.put 2 (.int .i64 n)) ⟨rfl, hn⟩ rfl (dok_arm h.ok n hn.2)⟩, hg⟩)
  clear h hg
  go_enter Try.func15, Try.ntmps15
  go_wp2
  go_end0
  exact ⟨rfl, H.out⟩
theorem off_any {S : Nat → Prop} (g : Nat) (d : DS) (w : World) (h : Dk S w g d) :
    Calls Try.prog 17 #[.pointer (some ⟨g, 0, none⟩)] w fun e w' => e = .returned (.bool d.off) ∧ w = w' := by
  obtain ⟨b, lf, loc, h⟩ := h
  have c3 : w.cell? ⟨g, 3, none⟩ = some (.bool d.off) := h.row.cell 3
  clear h
  go_enter Try.func17, Try.ntmps17
  go_wp2
  go_ret
  exact ⟨rfl, rfl⟩
/-- The blocks of a new disk. -/
def fresh (w : World) : Nat → Prop := fun k => k = w.heap.size ∨ k = w.heap.size + 1
theorem dk_new (w : World) (q : Int) (hq : 0 ≤ q ∧ q ≤ 1048576) :
    Dk (fresh w) ((w.alloc (.map #[] 0)).alloc (.cells #[.int .i64 q, .map (some w.heap.size), .int .i64 (-1), .bool false] 59)) (w.heap.size + 1) (newS q) := by
  refine ⟨w.heap.size, -1, fun _ => ⟨0, none, 0⟩, ⟨List.Pairwise.nil, hq, ?_, fun f hf => (by cases hf), fun f hf => (by cases hf), fun f hf => (by cases hf), ?_⟩, fun k hk => ?_, ?_, ⟨rfl, by omega, by omega⟩, .inr rfl, .inl rfl, ⟨.map [], (World.ownsMap_made w _ _ _).alloc _, rfl, fun s => ⟨rfl, rfl⟩⟩,
    ⟨fun x hx => (by cases hx), fun x hx => (by cases hx), fun x hx => (by cases hx), fun x hx => (by cases hx), fun x hx => (by cases hx)⟩⟩
  · unfold newS total; simpa using hq.1
  · unfold newS; simp
  · unfold fresh at hk; simp; omega
  · have := Row.new (w.alloc (.map #[] 0)) 59 #[.int .i64 q, .map (some w.heap.size), .int .i64 (-1), .bool false]
    simpa [newS] using this
set_option maxHeartbeats 1000000 in
theorem new_yes (q : Int) (w : World) (hq : 0 ≤ q ∧ q ≤ 1048576) :
    Calls Try.prog 10 #[.int .i64 q] w fun e w' => ∃ g, e = .returned (.tuple #[.pointer (some ⟨g, 0, none⟩), .int .i64 0]) ∧ Dk (fresh w) w' g (newS q) ∧ Below w.heap.size w w' := by
  have H := hide (dk_new w q hq)
  have hmm := @run_makeMap Try.prog
  go_enter Try.func10, Try.ntmps10
  go_wp2
  go_ret2
  exact ⟨_, rfl, H.out, kept_alloc (kept_alloc (kept_refl w) _) _⟩
set_option maxHeartbeats 1000000 in
theorem new_no (q : Int) (w : World) (hq : q < 0 ∨ 1048576 < q) :
    Calls Try.prog 10 #[.int .i64 q] w fun e w' => e = .returned (.tuple #[.pointer none, .int .i64 1]) ∧ w = w' := by
  rcases hq with hq | hq
  · go_enter Try.func10, Try.ntmps10
    go_wp2
    go_ret2
    exact ⟨rfl, rfl⟩
  · have h2 : ¬ q < 0 := by omega
    go_enter Try.func10, Try.ntmps10
    go_wp2
    go_ret2
    exact ⟨rfl, rfl⟩
end Go.Proofs.Ytllgjbkmemheoaa
