/- The document's own disk in memory: a slice of files by their names, each with bytes of its own. No condition. -/
import Derived.Test.YtllgjbkmemheoaaLaw
namespace Go.Proofs.Ytllgjbkmemheoaa
open Go.RowKit Go.Maps
/-- Where a file's bytes lie, and their room. -/
abbrev Ps := Option Nat × Nat
def Ps.A (s : Ps) : Option Addr := s.1.map fun r => ⟨r, 0, none⟩
def cell3 (x : Fl × Ps) : List Value := [.string x.1.nm, .slice x.2.A x.1.dt.length x.2.2, .int .i64 x.1.kp]
def cells3 (R : List (Fl × Ps)) : List Value := R.flatMap cell3
theorem length_cells3 : ∀ R : List (Fl × Ps), (cells3 R).length = R.length * 3
  | [] => rfl
  | x :: r => by
    have := length_cells3 r
    unfold cells3 at this ⊢
    rw [List.flatMap_cons, List.length_append, this, List.length_cons]
    show 3 + r.length * 3 = _
    omega
theorem cells3_append (l m : List (Fl × Ps)) : cells3 (l ++ m) = cells3 l ++ cells3 m := by unfold cells3; exact List.flatMap_append
theorem cells3_of : ∀ {R : List (Fl × Ps)} {k : Nat} {x : Fl × Ps}, R[k]? = some x → (cells3 R)[k * 3]? = some (.string x.1.nm) ∧ (cells3 R)[k * 3 + 1]? = some (.slice x.2.A x.1.dt.length x.2.2) ∧ (cells3 R)[k * 3 + 2]? = some (.int .i64 x.1.kp)
  | [], k, x, h => by simp at h
  | y :: r, 0, x, h => by
    simp at h; subst h
    exact ⟨rfl, rfl, rfl⟩
  | y :: r, k + 1, x, h => by
    have := cells3_of (R := r) (k := k) (x := x) (by simpa using h)
    have e : cells3 (y :: r) = .string y.1.nm :: .slice y.2.A y.1.dt.length y.2.2 :: .int .i64 y.1.kp :: cells3 r := rfl
    rw [e, show (k + 1) * 3 = k * 3 + 1 + 1 + 1 by omega]
    simp only [List.getElem?_cons_succ]
    exact this
theorem cells3_get {R : List (Fl × Ps)} {j : Nat} {u : Value} (h : (cells3 R)[j]? = some u) : ∃ k x, R[k]? = some x ∧ ((j = k * 3 ∧ u = .string x.1.nm) ∨ (j = k * 3 + 1 ∧ u = .slice x.2.A x.1.dt.length x.2.2) ∨ (j = k * 3 + 2 ∧ u = .int .i64 x.1.kp)) := by
  have hj : j < R.length * 3 := by
    rcases Nat.lt_or_ge j (cells3 R).length with h1 | h1
    · rwa [length_cells3] at h1
    · rw [List.getElem?_eq_none h1] at h; cases h
  have hx : R[j / 3]? = some R[j / 3] := List.getElem?_eq_getElem (by omega)
  obtain ⟨h0, h1, h2⟩ := cells3_of hx
  refine ⟨j / 3, _, hx, ?_⟩
  have h3 : j % 3 = 0 ∨ j % 3 = 1 ∨ j % 3 = 2 := by omega
  rcases h3 with e | e | e
  · have e2 : j / 3 * 3 = j := by omega
    rw [e2, h] at h0
    exact .inl ⟨e2.symm, Option.some.inj h0⟩
  · have e2 : j / 3 * 3 + 1 = j := by omega
    rw [e2, h] at h1
    exact .inr (.inl ⟨e2.symm, Option.some.inj h1⟩)
  · have e2 : j / 3 * 3 + 2 = j := by omega
    rw [e2, h] at h2
    exact .inr (.inr ⟨e2.symm, Option.some.inj h2⟩)
theorem cells3_one {R : List (Fl × Ps)} : ∀ u ∈ cells3 R, u.oneCell' = true := fun u hu => by
  obtain ⟨j, hj⟩ := List.mem_iff_getElem?.1 hu
  obtain ⟨k, x, _, h | h | h⟩ := cells3_get hj <;> (rw [h.2]; rfl)
/-- From A on there lie the files R. -/
def Lies3 (w : World) (A : Option Addr) (R : List (Fl × Ps)) : Prop := 0 < R.length → ∃ b off, A = some ⟨b, off, none⟩ ∧ b < w.heap.size ∧ ∀ k x, R[k]? = some x →
  w.cell? ⟨b, off + k * 3, none⟩ = some (.string x.1.nm) ∧ w.cell? ⟨b, off + k * 3 + 1, none⟩ = some (.slice x.2.A x.1.dt.length x.2.2) ∧ w.cell? ⟨b, off + k * 3 + 2, none⟩ = some (.int .i64 x.1.kp)
theorem lies3_own {w : World} {base : Nat} {e : TypeId} {A : Option Addr} {n c : Nat} {R : List (Fl × Ps)} (h : w.ownsRow base e 3 (.slice A n c) n (cells3 R)) : Lies3 w A R ∧ R.length = n := by
  have hn : R.length = n := by have := h.1; rw [length_cells3] at this; omega
  refine ⟨fun hp => ?_, hn⟩
  rcases h.2 with ⟨e, h0⟩ | ⟨g, cap, cur, e, hg, hh, q1, q2, q3, q4⟩
  · omega
  · injection e with e1 e2 e3
    subst e1
    refine ⟨g, 0, rfl, (Array.getElem?_eq_some_iff.1 hh).1, fun k x hk => ?_⟩
    obtain ⟨h0, h1, h2⟩ := cells3_of hk
    have hl : k < R.length := by
      rcases Nat.lt_or_ge k R.length with h1 | h1
      · exact h1
      · rw [List.getElem?_eq_none h1] at hk; cases hk
    rw [← q4, List.getElem?_take_of_lt (by omega), Array.getElem?_toList] at h0 h1 h2
    refine ⟨?_, ?_, ?_⟩
    · rw [cell_of_row w g _ cur _ (0, 0) hh, Nat.zero_add]; exact h0
    · rw [cell_of_row w g _ cur _ (0, 0) hh, Nat.zero_add]; exact h1
    · rw [cell_of_row w g _ cur _ (0, 0) hh, Nat.zero_add]; exact h2
/-- The parts of the document's disk at block g. -/
structure Rp (S : Nat → Prop) (w : World) (g : Nat) (R : List (Fl × Ps)) (A : Option Addr) (c : Nat) (d : DS) : Prop where
  lt : ∀ k, S k → k < w.heap.size
  row : Row w g 66 #[.slice A d.l.length c, .int .i64 d.q, .int .i64 d.left, .bool d.off]
  ls : R.map Prod.fst = d.l
  own : w.ownsRow 0 78 3 (.slice A d.l.length c) d.l.length (cells3 R)
  dat : ∀ x, x ∈ R → w.ownsRow 0 5 1 (.slice x.2.A x.1.dt.length x.2.2) x.1.dt.length (cellsOf x.1.dt)
  sg : S g
  sA : ∀ a, A = some a → S a.block
  sd : ∀ x, x ∈ R → ∀ r, x.2.1 = some r → S r
def Rk (S : Nat → Prop) (w : World) (g : Nat) (d : DS) : Prop := DOk d ∧ ∃ R A c, Rp S w g R A c d
theorem own_same {w w' : World} {e : TypeId} {sz : Nat} {A : Option Addr} {n c : Nat} {vs : List Value} (h : w.ownsRow 0 e sz (.slice A n c) n vs) (hs : ∀ a, A = some a → w'.heap[a.block]? = w.heap[a.block]?) : w'.ownsRow 0 e sz (.slice A n c) n vs := by
  refine ⟨h.1, ?_⟩
  rcases h.2 with hn | ⟨g, cap, cur, hv, hb, hg, rest⟩
  · exact .inl hn
  · refine .inr ⟨g, cap, cur, hv, hb, ?_, rest⟩
    injection hv with hA
    rw [← hg]; exact hs ⟨g, 0, none⟩ hA
section
variable {S : Nat → Prop} {w w' : World} {g : Nat} {R : List (Fl × Ps)} {A : Option Addr} {c : Nat} {d : DS}
theorem Rp.at_ (h : Rp S w g R A c d) {k : Nat} {f : Fl} (hk : d.l[k]? = some f) : ∃ b off s, A = some ⟨b, off, none⟩ ∧ R[k]? = some (f, s) ∧ k < d.l.length ∧
    w.cell? ⟨b, off + k * 3, none⟩ = some (.string f.nm) ∧ w.cell? ⟨b, off + k * 3 + 1, none⟩ = some (.slice s.A f.dt.length s.2) ∧ w.cell? ⟨b, off + k * 3 + 2, none⟩ = some (.int .i64 f.kp) := by
  rw [← h.ls, List.getElem?_map] at hk
  obtain ⟨x, hx, rfl⟩ := Option.map_eq_some_iff.1 hk
  have hl : k < R.length := by
    rcases Nat.lt_or_ge k R.length with h1 | h1
    · exact h1
    · rw [List.getElem?_eq_none h1] at hx; cases hx
  obtain ⟨hL, hn⟩ := lies3_own h.own
  obtain ⟨b, off, e, hb, hc⟩ := hL (by omega)
  obtain ⟨h0, h1, h2⟩ := hc k x hx
  exact ⟨b, off, x.2, e, hx, by omega, h0, h1, h2⟩
/-- What stays where none of its blocks turn. -/
theorem Rp.kept (h : Rp S w g R A c d) (hs : w.heap.size ≤ w'.heap.size) (hk : ∀ k, S k → w'.heap[k]? = w.heap[k]?) : Rp S w' g R A c d :=
  ⟨fun k hk' => Nat.lt_of_lt_of_le (h.lt k hk') hs, (hk g h.sg).trans h.row, h.ls, own_same h.own (fun a ha => hk _ (h.sA a ha)), fun x hx => own_same (h.dat x hx) (fun a ha => by
    unfold Ps.A at ha
    cases hr : x.2.1 with
    | none => rw [hr] at ha; cases ha
    | some r => rw [hr] at ha; injection ha with ha; rw [← ha]; exact hk _ (h.sd x hx r hr)), h.sg, h.sA, h.sd⟩
theorem Rp.below (h : Rp S w g R A c d) (hb : Below w.heap.size w w') : Rp S w' g R A c d := h.kept hb.size fun k hk => hb.block k (h.lt k hk)
theorem Rk.kept (h : Rk S w g d) (hs : w.heap.size ≤ w'.heap.size) (hk : ∀ k, S k → w'.heap[k]? = w.heap[k]?) : Rk S w' g d := by obtain ⟨o, R, A, c, h⟩ := h; exact ⟨o, R, A, c, h.kept hs hk⟩
theorem Rk.below (h : Rk S w g d) (hb : Below w.heap.size w w') : Rk S w' g d := by obtain ⟨o, R, A, c, h⟩ := h; exact ⟨o, R, A, c, h.below hb⟩
theorem Rk.ok (h : Rk S w g d) : DOk d := by exact h.1
theorem Rk.lt (h : Rk S w g d) : ∀ k, S k → k < w.heap.size := by obtain ⟨_, R, A, c, h⟩ := h; exact h.lt
/-- The disk's own cells turn: not its files. -/
theorem Rp.cells (h : Rp S w g R A c d) {e : DS} (hg : w.grownBy w' (some g)) (hr : Row w' g 66 #[.slice A e.l.length c, .int .i64 e.q, .int .i64 e.left, .bool e.off]) (hl : e.l = d.l) : Rp S w' g R A c e := by
  have stay : ∀ {k : Nat} {cs : Array Value} {t : TypeId}, w.heap[k]? = some (.cells cs t (0, 0)) → t ≠ 66 → w'.heap[k]? = w.heap[k]? := fun {k cs t} hk hne => by
    refine hg.block k (Array.getElem?_eq_some_iff.1 hk).1 fun e => ?_
    injection e with e
    exact kind_ne hk h.row hne e
  refine ⟨fun k hk => Nat.lt_of_lt_of_le (h.lt k hk) hg.size, hr, by rw [hl]; exact h.ls, ?_, fun x hx => ?_, h.sg, h.sA, h.sd⟩
  · rw [hl]
    refine own_same h.own fun a ha => ?_
    rcases h.own.2 with ⟨hv, _⟩ | ⟨q, cap, cur, hv, _, hh, _⟩
    · injection hv with hv; rw [hv] at ha; cases ha
    · injection hv with hv; rw [hv] at ha; injection ha with ha; rw [← ha]; exact stay hh (by decide)
  · refine own_same (h.dat x hx) fun a ha => ?_
    rcases (h.dat x hx).2 with ⟨hv, _⟩ | ⟨q, cap, cur, hv, _, hh, _⟩
    · injection hv with hv; rw [hv] at ha; cases ha
    · injection hv with hv; rw [hv] at ha; injection ha with ha; rw [← ha]; exact stay hh (by decide)
end
/-- What a change answers, and the document's disk behind it. -/
def Chr (S : Nat → Prop) (w : World) (g : Nat) (x : Int) (d : DS) (e : Ending) (w' : World) : Prop := e = .returned (.int .i64 x) ∧ ∃ S', Rk S' w' g d ∧ Own S w S' w'
theorem Chr.same {S : Nat → Prop} {w : World} {g : Nat} {d : DS} (h : Rk S w g d) (x : Int) : Chr S w g x d (.returned (.int .i64 x)) w := ⟨rfl, S, h, Own.refl _ _⟩
end Go.Proofs.Ytllgjbkmemheoaa
