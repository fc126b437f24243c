/- What StatePlays holds along its loop. No condition: no walk. -/
import Derived.Test.YtahfpncfkcfogaaOa
import Derived.Test.YtahfpncfkcfogaaGu
import Derived.Test.YtahfpncfkcfogaaGs
namespace Go.Proofs.Ytahfpncfkcfogaa
set_option maxRecDepth 100000
open Go.RowKit
abbrev zero5 : Array Value := #[.int .i64 0, .bool false, .string { data := #[] }, .int .i64 0, .slice none 0 0]
/-- A reply is stored into its block, as a step of a drawn region. -/
theorem info_reply5 : (Try.prog.info? 25).map (·.size) = some 5 := by kernel_rfl
theorem step_storeR5 {ops : Array Oper} {d : Option Tmp} {ty : TypeId} {ps : String} {af : Array Edge} {x y : Operand} {a : Act} {w : World} {K : Act → World → Prop} {Q : Exit → Act → World → Prop} {E : Prop} {b n c : Nat} {t : TypeId} {r : Re} {A : Option Addr}
    (hx : a.eval x = .pointer (some ⟨b, 0, none⟩)) (hy : a.eval y = .agg #[.int .i64 r.why, .bool r.fnd, .string r.val, .int .i64 r.ver, .slice A n c]) (R : Row w b t zero5)
    (h : K (a.put d undef) (w.setRow b #[.int .i64 r.why, .bool r.fnd, .string r.val, .int .i64 r.ver, .slice A n c])) :
    if Region.wanted ({ dst := d, op := .store 25 x y, type := ty, pos := ps, after := af, guard := none } : Oper) (yielded ops a.tmps) = true then Oper.wp Try.prog { dst := d, op := .store 25 x y, type := ty, pos := ps, after := af, guard := none } a w K Q else E := by
  rw [if_pos (by simp [Region.wanted])]
  unfold Oper.wp execOp
  simp only [hx, hy, Instr.storeAt, Instr.sureAddr, Sem.run_bind, Sem.run_pure, Result.andThen_ok, run_storeVar_row _ b t 25 _ #[.int .i64 r.why, .bool r.fnd, .string r.val, .int .i64 r.ver, .slice A n c] R info_reply5 rfl (Array.all_eq_true_iff_forall_mem.2 (fun v hv => by simp at hv; rcases hv with rfl | rfl | rfl | rfl | rfl <;> rfl))]
  exact h
/-- Two allocs and a call that answers a state and a reply, in any order. -/
structure Ev (T : Bool) (w0 w : World) (a b : Option Nat) (c : Option (Value × List Co × Value)) (s : Sm) (r : Re) : Prop where
  bel : Below w0.heap.size w0 w
  fa : ∀ g, a = some g → w0.heap.size ≤ g ∧ Row w g 30 (stc (.slice none 0 0) zeroL)
  fb : ∀ g, b = some g → w0.heap.size ≤ g ∧ Row w g 25 zero5
  fab : ∀ g h, a = some g → b = some h → g ≠ h
  fc : ∀ p M q, c = some (p, M, q) → NewS w0.heap.size w p M s ∧ Mine w0.heap.size w q r.l ∧ r.l.length ≤ 3518437208780 ∧ (T = true → ∀ k, q.ownBlock = some k → OffS k p M)
  fca : ∀ p M q g, c = some (p, M, q) → (a = some g ∨ b = some g) → OffS g p M ∧ Off q g
section
variable {T : Bool} {w0 w w' : World} {a b : Option Nat} {c : Option (Value × List Co × Value)} {s : Sm} {r : Re} {p q : Value} {M : List Co} {g h : Nat}
theorem Ev.start (h0 : Below w0.heap.size w0 w) : Ev T w0 w none none none s r :=
  ⟨h0, (fun _ e => by cases e), (fun _ e => by cases e), (fun _ _ e => by cases e), (fun _ _ _ e => by cases e), (fun _ _ _ _ e => by cases e)⟩
theorem Ev.allocA (h : Ev T w0 w none b c s r) : Ev T w0 (w.alloc (.cells (stc (.slice none 0 0) zeroL) 30)) (some w.heap.size) b c s r :=
  have kb := kept_alloc (kept_refl w) (.cells (stc (.slice none 0 0) zeroL) 30)
  ⟨kept_trans h.bel kb, fun g e => by cases e; exact ⟨h.bel.size, Row.new w _ _⟩, fun g e => ⟨(h.fb g e).1, (h.fb g e).2.below kb (h.fb g e).2.lt⟩, fun g k e1 e2 => by
    cases e1
    have := (h.fb k e2).2.lt
    omega, fun p M q e => ⟨(h.fc p M q e).1.below kb, (h.fc p M q e).2.1.below kb, (h.fc p M q e).2.2⟩, fun p M q g e1 e2 => by
    rcases e2 with e2 | e2
    · cases e2
      exact ⟨(h.fc p M q e1).1.offOld (Nat.le_refl _), (h.fc p M q e1).2.1.offOld (Nat.le_refl _)⟩
    · exact h.fca p M q g e1 (.inr e2)⟩
theorem Ev.allocB (h : Ev T w0 w a none c s r) : Ev T w0 (w.alloc (.cells zero5 25)) a (some w.heap.size) c s r :=
  have kb := kept_alloc (kept_refl w) (.cells zero5 25)
  ⟨kept_trans h.bel kb, fun g e => ⟨(h.fa g e).1, (h.fa g e).2.below kb (h.fa g e).2.lt⟩, fun g e => by cases e; exact ⟨h.bel.size, Row.new w _ _⟩, fun g k e1 e2 => by
    cases e2
    have := (h.fa g e1).2.lt
    omega, fun p M q e => ⟨(h.fc p M q e).1.below kb, (h.fc p M q e).2.1.below kb, (h.fc p M q e).2.2⟩, fun p M q g e1 e2 => by
    rcases e2 with e2 | e2
    · exact h.fca p M q g e1 (.inl e2)
    · cases e2
      exact ⟨(h.fc p M q e1).1.offOld (Nat.le_refl _), (h.fc p M q e1).2.1.offOld (Nat.le_refl _)⟩⟩
theorem Ev.call (h : Ev T w0 w a b none s r) (hn : NewS w.heap.size w' p M s) (hq : Mine w.heap.size w' q r.l) (ln : r.l.length ≤ 3518437208780) (ap : T = true → ∀ k, q.ownBlock = some k → OffS k p M) (kb : Below w.heap.size w w') : Ev T w0 w' a b (some (p, M, q)) s r :=
  ⟨kept_trans h.bel kb, fun g e => ⟨(h.fa g e).1, (h.fa g e).2.below kb (h.fa g e).2.lt⟩, fun g e => ⟨(h.fb g e).1, (h.fb g e).2.below kb (h.fb g e).2.lt⟩, h.fab, fun _ _ _ e => by cases e; exact ⟨hn.mono h.bel.size, hq.mono h.bel.size, ln, ap⟩, fun _ _ _ g e1 e2 => by
    cases e1
    have : g < w.heap.size := by
      rcases e2 with e2 | e2
      · exact (h.fa g e2).2.lt
      · exact (h.fb g e2).2.lt
    exact ⟨hn.offNew this, hq.offNew this⟩⟩
end
/-- A state and a reply, each in a block of its own, made since. -/
structure Fn (T : Bool) (w0 w : World) (g h : Nat) (p : Value) (M : List Co) (q : Value) (s : Sm) (r : Re) : Prop where
  ra : Row w g 30 (stc p M)
  rb : Row w h 25 (reV r q)
  n : NewS w0.heap.size w p M s
  m : Mine w0.heap.size w q r.l
  ln : r.l.length ≤ 3518437208780
  ap : T = true → ∀ k, q.ownBlock = some k → OffS k p M
  la : w0.heap.size ≤ g
  lb : w0.heap.size ≤ h
  bel : Below w0.heap.size w0 w
section
variable {T : Bool} {w0 w w' : World} {s : Sm} {r : Re} {p q : Value} {M : List Co} {g h : Nat}
theorem Ev.fin (e : Ev T w0 w (some g) (some h) (some (p, M, q)) s r) : Row w g 30 (stc (.slice none 0 0) zeroL) ∧ Row (w.setRow g (stc p M)) h 25 zero5 ∧ Below w0.heap.size w0 (w.setRow g (stc p M)) ∧ Fn T w0 ((w.setRow g (stc p M)).setRow h (reV r q)) g h p M q s r := by
  obtain ⟨la, ra⟩ := e.fa g rfl
  obtain ⟨lb, rb⟩ := e.fb h rfl
  have hne := e.fab g h rfl rfl
  obtain ⟨n, m, ln, ap⟩ := e.fc p M q rfl
  have o1 := e.fca p M q g rfl (.inl rfl)
  have o2 := e.fca p M q h rfl (.inr rfl)
  have b1 := below_setRow e.bel la (stc p M)
  have rb1 := rb.setRow_other (Ne.symm hne) (stc p M)
  exact ⟨ra, rb1, b1, (ra.setRow _).setRow_other hne _, rb1.setRow _, (n.grownOff (setRow_grown _ _ _) o1.1).grownOff (setRow_grown _ _ _) o2.1, (m.grownOff (setRow_grown _ _ _) o1.2).grownOff (setRow_grown _ _ _) o2.2, ln, ap, la, lb, below_setRow b1 lb _⟩
theorem Fn.below (f : Fn T w0 w g h p M q s r) (hb : Below w.heap.size w w') : Fn T w0 w' g h p M q s r :=
  ⟨f.ra.below hb f.ra.lt, f.rb.below hb f.rb.lt, f.n.below hb, f.m.below hb, f.ln, f.ap, f.la, f.lb, kept_trans f.bel hb⟩
end
/-- At the head of a round: the program's state at block g, the document's behind it; the replies. -/
structure Lp (W w : World) (g : Nat) (s : Sm) (rs : List Re) (p : Value) (M : List Co) (p' : Value) (M' : List Co) (v : Value) (R : List Cr) : Prop where
  r3 : Row w g 30 (stc p M)
  r4 : Row w (g + 1) 30 (stc p' M')
  n3 : NewS (g + 1 + 1) w p M s
  n4 : NewS (g + 1 + 1) w p' M' s
  ap : ∀ k, p.ownBlock = some k → OffS k p' M' ∧ ∀ x, x ∈ R → Off x.p k
  rp : Rps (g + 1 + 1) w v R
  is : R.map Cr.r = rs
  bel : Below W.heap.size W w
  hg : W.heap.size ≤ g
section
variable {W w w' w0 w2 : World} {g g8 g9 g10 g11 : Nat} {s sn : Sm} {rs : List Re} {rn : Re} {p p' p8 p10 q9 q11 v v' : Value} {M M' M8 M10 : List Co} {R : List Cr}
theorem Lp.below (h : Lp W w g s rs p M p' M' v R) (hb : Below w.heap.size w w') : Lp W w' g s rs p M p' M' v R :=
  ⟨h.r3.below hb h.r3.lt, h.r4.below hb h.r4.lt, h.n3.below hb, h.n4.below hb, h.ap, h.rp.below hb, h.is, h.bel.trans (hb.mono h.bel.size), h.hg⟩
theorem Lp.start (W w : World) (g : Nat) (h3 : Row w g 30 (stc (.slice none 0 0) zeroL)) (h4 : Row w (g + 1) 30 (stc (.slice none 0 0) zeroL)) (hb : Below W.heap.size W w) (hg : W.heap.size ≤ g) : Lp W w g zeroS [] (.slice none 0 0) zeroL (.slice none 0 0) zeroL (.slice none 0 0) [] :=
  have zn : ∀ b, NewS b w (.slice none 0 0) zeroL zeroS := fun b => ⟨Mine.nil_ _ _, Nat.zero_le _, rfl, fun x hx => by
    have : x = zeroC := by simpa [zeroL] using hx
    subst this
    exact ⟨Mine.nil_ _ _, Nat.zero_le _⟩, rfl⟩
  ⟨h3, h4, zn _, zn _, (fun k e => by cases e), Rps.nil_ _ _, rfl, hb, hg⟩
/-- Behind both calls: what is looked at later, and that it lies apart from the lists that are written over. -/
structure Ln (W w : World) (g g8 g9 g10 g11 : Nat) (sn : Sm) (rn : Re) (rs : List Re) (p : Value) (M : List Co) (p' : Value) (M' : List Co) (p8 : Value) (M8 : List Co) (q9 : Value) (p10 : Value) (M10 : List Co) (q11 : Value) (v : Value) (R : List Cr) (n3 : Nat) (y3 y9 : List Value) : Prop where
  r3 : Row w g 30 (stc p M)
  l3 : M.length = 8
  r4 : Row w (g + 1) 30 (stc p' M')
  l4 : M'.length = 8
  r8 : Row w g8 30 (stc p8 M8)
  r9 : Row w g9 25 (reV rn q9)
  r10 : Row w g10 30 (stc p10 M10)
  r11 : Row w g11 25 (reV rn q11)
  g8 : g + 1 < g8
  g9 : g + 1 < g9
  g10 : g + 1 < g10
  g11 : g + 1 < g11
  o3 : w.ownsRow (g + 1 + 1) 47 3 p n3 y3
  o9 : w.ownsRow (g + 1 + 1) 47 3 q9 rn.l.length y9
  n8 : NewS (g + 1 + 1) w p8 M8 sn
  n10 : NewS (g + 1 + 1) w p10 M10 sn
  m11 : Mine (g + 1 + 1) w q11 rn.l
  ln : rn.l.length ≤ 3518437208780
  rp : Rps (g + 1 + 1) w v R
  is : R.map Cr.r = rs
  a9 : ∀ k, q9.ownBlock = some k → OffS k p8 M8 ∧ OffS k p10 M10 ∧ Off q11 k ∧ (∀ x, x ∈ R → Off x.p k) ∧ p.ownBlock ≠ some k
  a3 : ∀ k, p.ownBlock = some k → OffS k p8 M8 ∧ OffS k p10 M10 ∧ Off q11 k ∧ ∀ x, x ∈ R → Off x.p k
  a8 : ∀ k, p8.ownBlock = some k → OffS k p10 M10 ∧ Off q11 k ∧ ∀ x, x ∈ R → Off x.p k
  bel : Below W.heap.size W w
  hg : W.heap.size ≤ g
theorem NewS.off (b : Nat) (h : NewS b w p M s) : OffS w.heap.size p M := h.offOld (Nat.le_refl _)
theorem Lp.ln (h : Lp W w0 g s rs p M p' M' v R) (f : Fn true w0 w2 g8 g9 p8 M8 q9 sn rn) (f' : Fn false w2 w g10 g11 p10 M10 q11 sn rn) :
    Ln W w g g8 g9 g10 g11 sn rn rs p M p' M' p8 M8 q9 p10 M10 q11 v R s.l.length (cellsV (prV s.l)) (cellsV (prV rn.l)) := by
  have kb := kept_trans f.bel f'.bel
  have h' := h.below kb
  have z4 := h.r4.lt
  have s1 := f.bel.size
  have la := f.la
  have lb := f.lb
  have la' := f'.la
  have lb' := f'.lb
  have l3 : ∀ k, p.ownBlock = some k → k < w0.heap.size := fun k e => (h.n3.pin.blk k e).2
  have lr : ∀ x, x ∈ R → ∀ k, x.p.ownBlock = some k → k < w0.heap.size := fun x hx k e => ((h.rp.own x hx).1.blk k e).2
  have l9 : ∀ k, q9.ownBlock = some k → w0.heap.size ≤ k ∧ k < w2.heap.size := fun k e => f.m.blk k e
  have l8 : ∀ k, p8.ownBlock = some k → w0.heap.size ≤ k ∧ k < w2.heap.size := fun k e => f.n.pin.blk k e
  have n8 := f.n.below f'.bel
  exact ⟨h'.r3, h.n3.eight, h'.r4, h.n4.eight, f.ra.below f'.bel f.ra.lt, f.rb.below f'.bel f.rb.lt, f'.ra, f'.rb, by omega, by omega, by omega, by omega, h'.n3.pin, (f.m.below f'.bel).mono (by omega), n8.mono (by omega), f'.n.mono (by omega), f'.m.mono (by omega), f'.ln, h'.rp, h.is,
    fun k e => ⟨f.ap rfl k e, f'.n.offNew (l9 k e).2, f'.m.offNew (l9 k e).2, fun x hx e2 => by have := lr x hx k e2; have := (l9 k e).1; omega, fun e2 => by have := l3 k e2; have := (l9 k e).1; omega⟩,
    fun k e => ⟨f.n.offNew (l3 k e), f'.n.offNew (by have := l3 k e; omega), f'.m.offNew (by have := l3 k e; omega), (h.ap k e).2⟩,
    fun k e => ⟨f'.n.offNew (l8 k e).2, f'.m.offNew (l8 k e).2, fun x hx e2 => by have := lr x hx k e2; have := (l8 k e).1; omega⟩, h'.bel, h.hg⟩
variable {n3 : Nat} {y3 y9 y3' y9' : List Value}
theorem Ln.below (h : Ln W w g g8 g9 g10 g11 sn rn rs p M p' M' p8 M8 q9 p10 M10 q11 v R n3 y3 y9) (hb : Below w.heap.size w w') : Ln W w' g g8 g9 g10 g11 sn rn rs p M p' M' p8 M8 q9 p10 M10 q11 v R n3 y3 y9 :=
  ⟨h.r3.below hb h.r3.lt, h.l3, h.r4.below hb h.r4.lt, h.l4, h.r8.below hb h.r8.lt, h.r9.below hb h.r9.lt, h.r10.below hb h.r10.lt, h.r11.below hb h.r11.lt, h.g8, h.g9, h.g10, h.g11, own_below h.o3 hb, own_below h.o9 hb, h.n8.below hb, h.n10.below hb, h.m11.below hb, h.ln, h.rp.below hb, h.is, h.a9, h.a3, h.a8, h.bel.trans (hb.mono h.bel.size), h.hg⟩
theorem row_off {base sz n g : Nat} {e t : TypeId} {w : World} {v : Value} {xs : List Value} {cs : Array Value} (h : w.ownsRow base e sz v n xs) (hr : Row w g t cs) (hne : t ≠ e) : some g ≠ v.ownBlock := by
  intro hg
  rcases h.2 with ⟨rfl, _⟩ | ⟨a, cap, cur, rfl, _, hh, _⟩
  · simp [Value.ownBlock] at hg
  · simp [Value.ownBlock] at hg
    subst hg
    unfold Row at hr
    rw [hh] at hr
    injection hr with hr
    injection hr with _ h2 _
    exact hne h2.symm
theorem NewS.grownAt {b : Nat} {o : Option Nat} (h : NewS b w p M s) (hg : w.grownBy w' o) (ho : ∀ k, o = some k → OffS k p M) : NewS b w' p M s := by
  cases o with
  | none => exact h.apart hg (fun k e => by cases e)
  | some k => exact h.grownOff hg (ho k rfl)
theorem Mine.grownAt {b : Nat} {o : Option Nat} {l : List Pr} (h : Mine b w v l) (hg : w.grownBy w' o) (ho : ∀ k, o = some k → Off v k) : Mine b w' v l := by
  cases o with
  | none => exact h.apart hg (fun k e => by cases e)
  | some k => exact h.grownOff hg (ho k rfl)
theorem Rps.grownAt {b n : Nat} {u : Value} {ys : List Value} (h : Rps b w v R) (hr : w.ownsRow b 47 3 u n ys) (hg : w.grownBy w' u.ownBlock) (ho : ∀ k, u.ownBlock = some k → ∀ x, x ∈ R → Off x.p k) : Rps b w' v R :=
  ⟨h.row.kept hg (own_unlike (by decide) h.row hr), fun x hx => ⟨(h.own x hx).1.grownAt hg (fun k e => ho k e x hx), (h.own x hx).2⟩⟩
/-- The answered reply's pairs are written over. -/
theorem Ln.w9 (h : Ln W w g g8 g9 g10 g11 sn rn rs p M p' M' p8 M8 q9 p10 M10 q11 v R n3 y3 y9) (hg : w.grownBy w' q9.ownBlock) (ho : w'.ownsRow (g + 1 + 1) 47 3 q9 rn.l.length y9') : Ln W w' g g8 g9 g10 g11 sn rn rs p M p' M' p8 M8 q9 p10 M10 q11 v R n3 y3 y9' := by
  have st : ∀ {g : Nat} {cs : Array Value}, Row w g 30 cs → Row w' g 30 cs := fun hr => hr.grown hg (row_off h.o9 hr (by decide))
  have re : ∀ {g : Nat} {cs : Array Value}, Row w g 25 cs → Row w' g 25 cs := fun hr => hr.grown hg (row_off h.o9 hr (by decide))
  exact ⟨st h.r3, h.l3, st h.r4, h.l4, st h.r8, re h.r9, st h.r10, re h.r11, h.g8, h.g9, h.g10, h.g11, h.o3.kept hg (by
    cases e : p.ownBlock with
    | none => exact .inl rfl
    | some k => exact .inr (fun e2 => (h.a9 k e2.symm).2.2.2.2 e)), ho, h.n8.grownAt hg (fun k e => (h.a9 k e).1), h.n10.grownAt hg (fun k e => (h.a9 k e).2.1), h.m11.grownAt hg (fun k e => (h.a9 k e).2.2.1), h.ln, h.rp.grownAt h.o9 hg (fun k e => (h.a9 k e).2.2.2.1), h.is, h.a9, h.a3, h.a8,
    h.bel.grown hg h.bel.size (fun k e => by have := (World.ownsRow.lt h.o9 k e).1; have := h.hg; omega), h.hg⟩
/-- The elder state's pairs are written over. -/
theorem Ln.w3 (h : Ln W w g g8 g9 g10 g11 sn rn rs p M p' M' p8 M8 q9 p10 M10 q11 v R n3 y3 y9) (hg : w.grownBy w' p.ownBlock) (ho : w'.ownsRow (g + 1 + 1) 47 3 p n3 y3') : Ln W w' g g8 g9 g10 g11 sn rn rs p M p' M' p8 M8 q9 p10 M10 q11 v R n3 y3' y9 := by
  have st : ∀ {g : Nat} {cs : Array Value}, Row w g 30 cs → Row w' g 30 cs := fun hr => hr.grown hg (row_off h.o3 hr (by decide))
  have re : ∀ {g : Nat} {cs : Array Value}, Row w g 25 cs → Row w' g 25 cs := fun hr => hr.grown hg (row_off h.o3 hr (by decide))
  exact ⟨st h.r3, h.l3, st h.r4, h.l4, st h.r8, re h.r9, st h.r10, re h.r11, h.g8, h.g9, h.g10, h.g11, ho, h.o9.kept hg (by
    cases e : q9.ownBlock with
    | none => exact .inl rfl
    | some k => exact .inr (fun e2 => (h.a9 k e).2.2.2.2 e2.symm)), h.n8.grownAt hg (fun k e => (h.a3 k e).1), h.n10.grownAt hg (fun k e => (h.a3 k e).2.1), h.m11.grownAt hg (fun k e => (h.a3 k e).2.2.1), h.ln, h.rp.grownAt h.o3 hg (fun k e => (h.a3 k e).2.2.2), h.is, h.a9, h.a3, h.a8,
    h.bel.grown hg h.bel.size (fun k e => by have := (World.ownsRow.lt h.o3 k e).1; have := h.hg; omega), h.hg⟩
/-- The answered reply is noted. -/
theorem Ln.more {A : Option Addr} {c : Nat} (h : Ln W w g g8 g9 g10 g11 sn rn rs p M p' M' p8 M8 q9 p10 M10 (.slice A rn.l.length c) v R n3 y3 y9) (hr : Rps (g + 1 + 1) w' v' (R ++ [⟨rn, A, c⟩])) (hg : w.grownBy w' v.ownBlock) (l9 : some g9 ≠ v.ownBlock) (l11 : some g11 ≠ v.ownBlock) :
    Ln W w' g g8 g9 g10 g11 sn rn (rs ++ [rn]) p M p' M' p8 M8 q9 p10 M10 (.slice A rn.l.length c) v' (R ++ [⟨rn, A, c⟩]) n3 y3 y9 := by
  have st : ∀ {g : Nat} {cs : Array Value}, Row w g 30 cs → Row w' g 30 cs := fun hr => hr.grown hg (row_off h.rp.row hr (by decide))
  have mem : ∀ {k : Nat} {x : Cr}, (∀ x, x ∈ R → Off x.p k) → Off (.slice A rn.l.length c) k → x ∈ R ++ [⟨rn, A, c⟩] → Off x.p k := fun {k x} h1 h2 hx => by
    rcases List.mem_append.1 hx with hx | hx
    · exact h1 x hx
    · rw [List.mem_singleton.1 hx]
      exact h2
  exact ⟨st h.r3, h.l3, st h.r4, h.l4, st h.r8, h.r9.grown hg l9, st h.r10, h.r11.grown hg l11, h.g8, h.g9, h.g10, h.g11, h.o3.kept hg (own_unlike (by decide) h.o3 h.rp.row), h.o9.kept hg (own_unlike (by decide) h.o9 h.rp.row), h.n8.unlikeT h.rp.row (by decide) hg, h.n10.unlikeT h.rp.row (by decide) hg, h.m11.unlikeT h.rp.row (by decide) hg, h.ln, hr, by rw [List.map_append, h.is]; rfl,
    fun k e => ⟨(h.a9 k e).1, (h.a9 k e).2.1, (h.a9 k e).2.2.1, fun x hx => mem (h.a9 k e).2.2.2.1 (h.a9 k e).2.2.1 hx, (h.a9 k e).2.2.2.2⟩,
    fun k e => ⟨(h.a3 k e).1, (h.a3 k e).2.1, (h.a3 k e).2.2.1, fun x hx => mem (h.a3 k e).2.2.2 (h.a3 k e).2.2.1 hx⟩,
    fun k e => ⟨(h.a8 k e).1, (h.a8 k e).2.1, fun x hx => mem (h.a8 k e).2.2 (h.a8 k e).2.1 hx⟩,
    h.bel.grown hg h.bel.size (fun k e => by have := (h.rp.blk k e).1; have := h.hg; omega), h.hg⟩
/-- Both states are stored. -/
theorem Ln.lp (h : Ln W w g g8 g9 g10 g11 sn rn rs p M p' M' p8 M8 q9 p10 M10 q11 v R n3 y3 y9) : Lp W ((w.setRow g (stc p8 M8)).setRow (g + 1) (stc p10 M10)) g sn rs p8 M8 p10 M10 v R := by
  have hg := h.hg
  exact ⟨(h.r3.setRow _).setRow_other (by omega) _, (h.r4.setRow_other (by omega) _).setRow _, (h.n8.setRow (by omega) _).setRow (by omega) _, (h.n10.setRow (by omega) _).setRow (by omega) _, fun k e => ⟨(h.a8 k e).1, (h.a8 k e).2.2⟩, (h.rp.setRow (by omega) _).setRow (by omega) _, h.is, below_setRow (below_setRow h.bel hg _) (by omega) _, hg⟩
end
theorem apply_is {p : Value} {L : List Co} {s : Sm} {x : Cm} {y : Sm × Re} {w : World} (e : applyP s x = y) (h : IsS w p L s) (hu : Up s.l) (ln : s.l.length ≤ 1000) :
    Calls Try.prog 16 #[.agg (stc p L), .agg #[.int .i64 x.k, .int .i64 x.c, .int .i64 x.q, .string x.key, .string x.en, .string x.old, .string x.val]] w (AnsS true w y) := by
  subst e
  exact apply_any p L s x w h hu ln
theorem rapply_is {p : Value} {L : List Co} {s : Sm} {x : Cm} {y : Sm × Re} {w : World} (e : applyP s x = y) (h : IsS w p L s) (hu : Up s.l) (ln : s.l.length ≤ 1000) :
    Calls Try.prog 17 #[.agg (stc p L), .agg #[.int .i64 x.k, .int .i64 x.c, .int .i64 x.q, .string x.key, .string x.en, .string x.old, .string x.val]] w (AnsS false w y) := by
  subst e
  exact rapply_any p L s x w h hu ln
theorem same_is {p q : Value} {L M : List Co} {s t : Sm} {w : World} {b : Bool} (e : eqS s t = b) (h : IsS w p L s) (k : IsS w q M t) : Calls Try.prog 19 #[.agg (stc p L), .agg (stc q M)] w fun e w' => e = .returned (.bool b) ∧ Below w.heap.size w w' := by
  subst e
  exact ssame_any p q L M s t w h k
theorem states_is {p q : Value} {L M : List Co} {s t : Sm} {w : World} {b : Bool} (e : eqS s t = b) (h : IsS w p L s) (k : IsS w q M t) : Calls Try.prog 18 #[.agg (stc p L), .agg (stc q M)] w fun e w' => e = .returned (.bool b) ∧ Below w.heap.size w w' := by
  subst e
  exact states_any p q L M s t w h k
theorem eqS_self (s : Sm) : eqS s s = true := (eqS_iff s s).2 rfl
theorem own_some {w : World} {b sz n c : Nat} {e : TypeId} {A : Option Addr} {ys : List Value} (h : w.ownsRow b e sz (.slice A n c) n ys) (hn : 0 < n) : ∃ g, A = some ⟨g, 0, none⟩ ∧ n ≤ c := by
  rcases h.2 with ⟨_, h0⟩ | ⟨g, cap, cur, e, _, _, hc, _⟩
  · omega
  · cases e
    exact ⟨g, rfl, hc⟩
/-- append of one reply onto an own row of replies. -/
theorem wpList_append_reply {ops : Array Oper} {rest : List Oper} {o : Oper} {a : Act} {Q : Exit → Act → World → Prop} {w : World} (hgd : o.guard = none) (s x : Operand)
    (ho : o.op = .call { callee := .builtin .append, args := #[s, x], argTypes := #[31, 31] })
    {b g : Nat} {v : Value} {R : List Cr} {r : Re} {A : Option Addr} {c : Nat} {t : TypeId} (hs : a.eval s = v) (h : Rps b w v R) (hx : a.eval x = .slice (some ⟨g, 0, none⟩) 1 1) (hr : Row w g t #[.int .i64 r.why, .bool r.fnd, .string r.val, .int .i64 r.ver, .slice A r.l.length c]) (hy : Mine b w (.slice A r.l.length c) r.l) (ln : r.l.length ≤ 3518437208780) (hb : R.length ≤ 100000) (hbase : b ≤ w.heap.size)
    (hk : ∀ v' w', Rps b w' v' (R ++ [⟨r, A, c⟩]) → w.grownBy w' v.ownBlock → wpList Try.prog ops Q rest (a.put o.dst v') w') : wpList Try.prog ops Q (o :: rest) a w := by
  obtain ⟨i0, hi, hz0, hz1, hz2⟩ := reply_parts
  refine wpList_append_els hgd s x 31 ho b 25 i0 _ 64 under_replies hi hz0 hz1 hz2 (by omega) rfl v R.length (crV R) hs h.row (some ⟨g, 0, none⟩) 1 1 (crV [⟨r, A, c⟩]) hx (crV_all _) rfl (fun e => by cases e) (els_row hr (crV_all [⟨r, A, c⟩]) rfl) (by omega) (by omega) hbase ?_
  intro v' w' h1 h2
  exact hk v' w' (Rps.more (x := ⟨r, A, c⟩) h hy ln h1 h2) h2
/-- A pair's three cells in an own row may be written. -/
theorem own_three {w : World} {b g n c j : Nat} {ys : List Value} (h : w.ownsRow b 47 3 (.slice (some ⟨g, 0, none⟩) n c) n ys) (hj : j < n) (u0 u1 u2 : Value) :
    (∃ x0 x1 x2, w.cell? ⟨g, j * 3, none⟩ = some x0 ∧ w.cell? ⟨g, j * 3 + 1, none⟩ = some x1 ∧ w.cell? ⟨g, j * 3 + 2, none⟩ = some x2) ∧
    (w.frozen? ⟨g, j * 3, none⟩ = false ∧ w.frozen? ⟨g, j * 3 + 1, none⟩ = false ∧ w.frozen? ⟨g, j * 3 + 2, none⟩ = false) ∧
    ∃ ys', (((w.setCell ⟨g, j * 3, none⟩ u0).setCell ⟨g, j * 3 + 1, none⟩ u1).setCell ⟨g, j * 3 + 2, none⟩ u2).ownsRow b 47 3 (.slice (some ⟨g, 0, none⟩) n c) n ys' ∧ w.grownBy (((w.setCell ⟨g, j * 3, none⟩ u0).setCell ⟨g, j * 3 + 1, none⟩ u1).setCell ⟨g, j * 3 + 2, none⟩ u2) (some g) := by
  have hl := h.1
  have at_ : ∀ i, i < 3 → ∃ x, w.cell? ⟨g, j * 3 + i, none⟩ = some x := fun i hi => ⟨_, (h.cellAt (j * 3 + i) (by omega)).trans (List.getElem?_eq_getElem (by omega))⟩
  obtain ⟨x0, c0⟩ := at_ 0 (by omega)
  obtain ⟨x1, c1⟩ := at_ 1 (by omega)
  obtain ⟨x2, c2⟩ := at_ 2 (by omega)
  have s0 := h.stored (j * 3) u0
  have s1 := s0.1.stored (j * 3 + 1) u1
  have s2 := s1.1.stored (j * 3 + 2) u2
  exact ⟨⟨x0, x1, x2, c0, c1, c2⟩, ⟨h.frozenAt _, h.frozenAt _, h.frozenAt _⟩, _, s2.1, World.grownBy.trans (World.grownBy.trans s0.2 s1.2) s2.2⟩
/-- Two states' blocks, made one behind the other. -/
theorem two_zero (w : World) : Row ((w.alloc (.cells (stc (.slice none 0 0) zeroL) 30)).alloc (.cells (stc (.slice none 0 0) zeroL) 30)) w.heap.size 30 (stc (.slice none 0 0) zeroL) ∧
    Row (((w.alloc (.cells (stc (.slice none 0 0) zeroL) 30)).alloc (.cells (stc (.slice none 0 0) zeroL) 30)).setRow w.heap.size (stc (.slice none 0 0) zeroL)) (w.heap.size + 1) 30 (stc (.slice none 0 0) zeroL) ∧
    Row ((((w.alloc (.cells (stc (.slice none 0 0) zeroL) 30)).alloc (.cells (stc (.slice none 0 0) zeroL) 30)).setRow w.heap.size (stc (.slice none 0 0) zeroL)).setRow (w.heap.size + 1) (stc (.slice none 0 0) zeroL)) w.heap.size 30 (stc (.slice none 0 0) zeroL) ∧
    Row ((((w.alloc (.cells (stc (.slice none 0 0) zeroL) 30)).alloc (.cells (stc (.slice none 0 0) zeroL) 30)).setRow w.heap.size (stc (.slice none 0 0) zeroL)).setRow (w.heap.size + 1) (stc (.slice none 0 0) zeroL)) (w.heap.size + 1) 30 (stc (.slice none 0 0) zeroL) ∧
    Below w.heap.size w ((((w.alloc (.cells (stc (.slice none 0 0) zeroL) 30)).alloc (.cells (stc (.slice none 0 0) zeroL) 30)).setRow w.heap.size (stc (.slice none 0 0) zeroL)).setRow (w.heap.size + 1) (stc (.slice none 0 0) zeroL)) := by
  have r1 := Row.new (w.alloc (.cells (stc (.slice none 0 0) zeroL) 30)) 30 (stc (.slice none 0 0) zeroL)
  have hs : (w.alloc (.cells (stc (.slice none 0 0) zeroL) 30)).heap.size = w.heap.size + 1 := by simp
  rw [hs] at r1
  have r0 := (Row.new w 30 (stc (.slice none 0 0) zeroL)).alloc (.cells (stc (.slice none 0 0) zeroL) 30)
  have k := kept_alloc (kept_alloc (kept_refl w) (.cells (stc (.slice none 0 0) zeroL) 30)) (.cells (stc (.slice none 0 0) zeroL) 30)
  exact ⟨r0, r1.setRow_other (by omega) _, (r0.setRow _).setRow_other (by omega) _, (r1.setRow_other (by omega) _).setRow _, below_setRow (below_setRow k (Nat.le_refl _) _) (by omega) _⟩
end Go.Proofs.Ytahfpncfkcfogaa
