/- Append of the program's disk. Conditions: what is appended lies apart from the disk, lengths have room. -/
import Derived.Test.YtllgjbkmemheoaaChg
namespace Go.Proofs.Ytllgjbkmemheoaa
open Go.RowKit Go.Maps
section
variable {S : Nat → Prop} {w w' : World} {g b : Nat} {lf : Int} {loc : ByteArray → Loc} {d : DS}
theorem Chg.same (h : Dk S w g d) (x : Int) : Chg S w g x d (.returned (.int .i64 x)) w := ⟨rfl, S, h, Own.refl _ _⟩
theorem Chg.of_below {w1 : World} {x : Int} {e : Ending} (hb : Below w.heap.size w w1) (h : Chg S w1 g x d e w') : Chg S w g x d e w' := by
  obtain ⟨he, S', hd, ho⟩ := h
  exact ⟨he, S', hd, (Own.refl S w).trans ⟨(Turn.of_below hb).trans ho.turn fun k hk => .inl hk, fun k hk => (ho.new k hk).imp id fun h => Nat.le_trans hb.size h⟩⟩
/-- Its bytes appended to. -/
theorem Dp.append (h : Dp S w g b lf loc d) {f : Fl} (hf : f ∈ d.l) {A : Option Addr} {m c : Nat} {zs : List Int} (hm : zs.length = m) (hc : A = none → c = 0) (hl : Lies w A zs) (hz : Octets zs) (hb : (total d.l : Int) + m ≤ d.q) :
    ∀ ty, ∃ v' w', (Builtin.append_ #[27, 27] ty #[.slice (loc f.nm).A f.dt.length (loc f.nm).c, .slice A m c]).run Try.prog w = .ok v' w' ∧
      (∃ A' c', v' = .slice A' (f.dt.length + m) c') ∧ (w'.cell? ⟨(loc f.nm).p, 0, none⟩ = some (.slice (loc f.nm).A f.dt.length (loc f.nm).c) ∧ w'.frozen? ⟨(loc f.nm).p, 0, none⟩ = false) ∧ Dk (More S w (w'.setCell ⟨(loc f.nm).p, 0, none⟩ v')) (w'.setCell ⟨(loc f.nm).p, 0, none⟩ v') g { d with l := putF ⟨f.nm, f.dt ++ zs, f.kp⟩ d.l } ∧ Turn S w (w'.setCell ⟨(loc f.nm).p, 0, none⟩ v') := by
  intro ty
  obtain ⟨i0, hi, hz0, hz1, hz2⟩ := info_parts Try.info5
  have hfo := h.files.one f hf
  have h1 := h.ok.q.2
  have hfl := flen h.ok hf
  obtain ⟨v', w', hr, hown, hg, hwhere⟩ := append_bytes (P := Try.prog) (w := w) 27 ty 5 i0 (.int .u8 0) Try.underlying27 hi hz0 hz1 hz2 rfl _ _ f.dt hfo.data A m c zs hm hc hl (by omega)
  obtain ⟨A', c', rfl, hA'⟩ := own_shape hown
  have hpr : (loc f.nm).r ≠ some (loc f.nm).p := fun e => by
    obtain ⟨cur, hcur⟩ := hfo.block e
    exact kind_ne hfo.head hcur (by decide) rfl
  have hrow : Row w' (loc f.nm).p 62 #[.slice (loc f.nm).A f.dt.length (loc f.nm).c, .int .i64 f.kp] := hfo.head.grown hg (fun e => by
    unfold Loc.A Value.ownBlock at e
    cases hr : (loc f.nm).r with
    | none => rw [hr] at e; cases e
    | some r => rw [hr] at e; simp at e; exact hpr (by rw [hr, e]))
  obtain ⟨x, hxp, hxA, hxc⟩ : ∃ x : Loc, x.p = (loc f.nm).p ∧ x.A = A' ∧ x.c = c' := by
    rcases hown.2 with ⟨hv, _⟩ | ⟨q, cap, cur, hv, _⟩
    · injection hv with e1 _ e3
      exact ⟨⟨(loc f.nm).p, none, c'⟩, rfl, by rw [e1]; rfl, rfl⟩
    · injection hv with e1 _ e3
      exact ⟨⟨(loc f.nm).p, some q, c'⟩, rfl, by rw [e1]; rfl, rfl⟩
  have hxr : ∀ r, x.r = some r → A' = some ⟨r, 0, none⟩ := fun r hr => by rw [← hxA]; unfold Loc.A; rw [hr]; rfl
  have hlen : (f.dt ++ zs).length = f.dt.length + m := by rw [List.length_append, hm]
  have hwh : ∀ r, x.r = some r → (loc f.nm).r = some r ∨ (w.heap.size ≤ r ∧ r < w'.heap.size) := fun r hr => by
    have := hwhere r (by rw [hxr r hr]; rfl)
    refine this.imp (fun e => ?_) id
    unfold Loc.A Value.ownBlock at e
    cases hq : (loc f.nm).r with
    | none => rw [hq] at e; cases e
    | some q => rw [hq] at e; simp at e; rw [e]
  have hne : ∀ r, x.r = some r → r ≠ (loc f.nm).p := fun r hr e => by
    rcases hown.2 with ⟨hv, _⟩ | ⟨q, cap, cur, hv, _, hh, _⟩
    · injection hv with e1; rw [hxr r hr] at e1; cases e1
    · injection hv with e1; rw [hxr r hr] at e1; injection e1 with e1; injection e1 with e1
      rw [← e1, e] at hh
      exact kind_ne hrow hh (by decide) rfl
  have ht : Turn (fun k => k = (loc f.nm).p ∨ (loc f.nm).r = some k) w (w'.setCell ⟨(loc f.nm).p, 0, none⟩ (.slice A' (f.dt.length + m) c')) :=
    (Turn.of_grown hg (fun k hk => by
      unfold Loc.A Value.ownBlock at hk
      cases hq : (loc f.nm).r with
      | none => rw [hq] at hk; cases hk
      | some q => rw [hq] at hk; simp at hk; exact .inr (by rw [hk]))).put (.inl rfl) 0 _
  have hO : OneF (w'.setCell ⟨(loc f.nm).p, 0, none⟩ (.slice A' (f.dt.length + m) c')) x (f.dt ++ zs).length f.kp (f.dt ++ zs) := by
    have h2 : OneF w' x (f.dt ++ zs).length f.kp (f.dt ++ zs) → OneF (w'.setCell ⟨(loc f.nm).p, 0, none⟩ (.slice A' (f.dt.length + m) c')) x (f.dt ++ zs).length f.kp (f.dt ++ zs) := fun k => by
      exact k.kept (by
        have := k.head
        rw [hxp] at this ⊢
        have e := this.put 0 (.slice A' (f.dt.length + m) c')
        unfold Row at this e
        rw [e, this, hxA, hxc, hlen]; rfl) (fun r hr => Below.heap_setCell _ _ _ _ (hne r hr))
    refine ⟨?_, ?_⟩
    · rw [hxp, hxA, hxc, hlen]; exact hrow.put 0 _
    · rw [hxA, hxc, hlen]
      refine ⟨hown.1, ?_⟩
      rcases hown.2 with hv | ⟨q, cap, cur, hv, hb, hh, rest⟩
      · exact .inl hv
      · refine .inr ⟨q, cap, cur, hv, hb, ?_, rest⟩
        rw [Below.heap_setCell _ _ _ _ (by
          show q ≠ (loc f.nm).p
          intro e
          rw [e] at hh
          exact kind_ne hrow hh (by decide) rfl)]
        exact hh
  obtain ⟨hD, hT⟩ := h.upd hf ⟨f.nm, f.dt ++ zs, f.kp⟩ rfl x hxp ht hO (fun r hr => (hwh r hr).imp id fun k => ⟨k.1, by simpa [World.setCell] using k.2⟩)
    (dok_put h.ok _ (by show f.kp ≤ (f.dt ++ zs).length; rw [hlen]; have := h.ok.kp f hf; omega) (h.ok.nm f hf) (fun z hz' => (List.mem_append.1 hz').elim (h.ok.oct f hf z) (hz z)) (by
      simp only
      rw [find_of_mem h.ok.up hf, hlen]
      simp only [lenO]
      omega))
  exact ⟨_, w', hr, ⟨A', c', rfl⟩, ⟨hrow.cell 0, hrow.free 0⟩, ⟨b, lf, _, hD⟩, hT⟩
/-- A new file, of nothing. -/
theorem Dp.create (h : Dp S w g b lf loc d) (nm : ByteArray) (hn : nameB nm = true) (hl : d.l.length < 9000000000) :
    ∃ w', (Instr.mapUpdate 57 (.map (some b)) (.string nm) (.pointer (some ⟨w.heap.size, 0, none⟩))).run Try.prog (w.alloc (.cells #[.slice none 0 0, .int .i64 0] 62)) = .ok () w' ∧
      Dp (More S w (w.alloc (.cells #[.slice none 0 0, .int .i64 0] 62))) w' g b lf (Go.Proofs.Ytllgjbkmemheoaa.upd loc nm ⟨w.heap.size, none, 0⟩) { d with l := putF ⟨nm, [], 0⟩ d.l } ∧ Turn S w w' := by
  have hb := (Below.refl w.heap.size w).alloc (Nat.le_refl _) (.cells #[.slice none 0 0, .int .i64 0] 62)
  have h1 := h.below hb
  have hsz := (name_size hn).2
  obtain ⟨w', hr, hm, hg⟩ := h1.map.put h.ok.up (by unfold maxLen; omega) ⟨nm, [], 0⟩ ⟨w.heap.size, none, 0⟩ (by unfold maxLen; simp only; omega)
  have hs1 : (w.alloc (.cells #[.slice none 0 0, .int .i64 0] 62)).heap.size = w.heap.size + 1 := by simp
  have hs2 := hg.size
  have hT : Turn S w w' := (Turn.of_below hb).trans (Turn.of_grown (S := S) hg (fun k e => by injection e with e; rw [← e]; exact h.sb)) (fun k hk => .inl hk)
  refine ⟨w', hr, h1.add ⟨nm, [], 0⟩ ⟨w.heap.size, none, 0⟩ (T := More S w (w.alloc (.cells #[.slice none 0 0, .int .i64 0] 62))) (fun k hk => .inl hk) (fun k hk => ?_) ⟨Row.new w _ _, World.ownsRow_nil _ _ _ _⟩ (fun y hy _ e => ?_) (fun y hy _ r hr e => by cases e) (.inr ⟨Nat.le_refl _, by show w.heap.size < (w.alloc _).heap.size; simp⟩) (fun r e => by cases e) hg hm ?_, hT⟩
  · rcases hk with hk | hk
    · have := h.lt k hk
      omega
    · exact hk.2
  · have := (h.files_lt hy).1
    simp only at e
    omega
  · exact dok_put h.ok _ (Nat.le_refl _) hn (fun z hz => (by cases hz)) (by simp only [List.length_nil]; have := h.ok.tot; omega)
end
end Go.Proofs.Ytllgjbkmemheoaa
