/- A Wal and the records that are wanted, along a law's loop. Conditions: as the calls' own. -/
import Derived.Test.YtkmcnhjfnjikaaaGreatDoorLi
namespace Go.Proofs.YtkmcnhjfnjikaaaGreatDoor
open Go.RowKit Go.Maps
theorem own_kx {w w' : World} {base sz n : Nat} {e : TypeId} {v : Value} {xs : List Value} (h : w.ownsRow base e sz v n xs) (hk : ∀ k, v.ownBlock = some k → k < w.heap.size → w'.heap[k]? = w.heap[k]?) : w'.ownsRow base e sz v n xs := by
  refine ⟨h.1, ?_⟩
  rcases h.2 with hn | ⟨g, cap, cur, rfl, hb, hgg, rest⟩
  · exact .inl hn
  · refine .inr ⟨g, cap, cur, rfl, hb, ?_, rest⟩
    rw [hk g rfl (Array.getElem?_eq_some_iff.1 hgg).1]
    exact hgg
theorem Grow.kx {base : Nat} {X : Nat → Prop} {w w' : World} {v : Value} {L : List (List Int)} (h : Grow base w v L) (hk : Kx X w w') (hv : ∀ k, v.ownBlock = some k → X k)
    (hx : ∀ (j : Nat) (p : List Int) (vs : List Value) (A' : Option Addr) (c' : Nat), w.ownsRow base 31 1 v L.length vs → L[j]? = some p → vs[j]? = some (Value.slice A' p.length c') → ∀ a, A' = some a → X a.block) : Grow base w' v L := by
  obtain ⟨vs, ho, hl⟩ := h.own
  refine ⟨vs, own_kx ho fun k e hlt => hk.same (hv k e) hlt, fun j p hj => ?_⟩
  obtain ⟨A', c', e, hz, hne⟩ := hl j p hj
  exact ⟨A', c', e, ⟨hz.lies.kx hk (fun _ a ha => hx j p vs A' c' ho hj e a ha), hz.le, hz.nil⟩, fun a ha => ⟨(hne a ha).1, Nat.lt_of_lt_of_le (hne a ha).2.1 hk.size, (hne a ha).2.2⟩⟩
/-- A row of its own, of slices of these lists, each of which lies in Z, none in the row's own block. -/
structure Wnt (Z : Nat → Prop) (w : World) (v : Value) (L : List (List Int)) : Prop where
  own : ∃ vs : List Value, w.ownsRow 0 31 1 v L.length vs ∧ ∀ (j : Nat) (p : List Int), L[j]? = some p → ∃ A' c', vs[j]? = some (Value.slice A' p.length c') ∧ El w p A' c' ∧ ∀ a, A' = some a → Z a.block ∧ a.block < w.heap.size
  apart : ∀ k, v.ownBlock = some k → ¬ Z k
theorem Wnt.nil (Z : Nat → Prop) (w : World) : Wnt Z w (.slice none 0 0) [] := ⟨⟨[], World.ownsRow_nil _ _ _ _, fun j p hj => by simp at hj⟩, fun k h => by cases h⟩
theorem Wnt.kx {Z X : Nat → Prop} {w w' : World} {v : Value} {L : List (List Int)} (h : Wnt Z w v L) (hk : Kx X w w') (hv : ∀ k, v.ownBlock = some k → X k) (hz : ∀ k, Z k → X k) : Wnt Z w' v L := by
  obtain ⟨vs, ho, hl⟩ := h.own
  refine ⟨⟨vs, own_kx ho fun k e hlt => hk.same (hv k e) hlt, fun j p hj => ?_⟩, h.apart⟩
  obtain ⟨A', c', e, hl2, hne⟩ := hl j p hj
  exact ⟨A', c', e, ⟨hl2.lies.kx hk (fun _ a ha => hz _ (hne a ha).1), hl2.le, hl2.nil⟩, fun a ha => ⟨(hne a ha).1, Nat.lt_of_lt_of_le (hne a ha).2 hk.size⟩⟩
theorem Wnt.below {Z : Nat → Prop} {w w' : World} {v : Value} {L : List (List Int)} (h : Wnt Z w v L) (hb : Below w.heap.size w w') : Wnt Z w' v L :=
  h.kx (X := fun k => k < w.heap.size ∨ Z k ∨ v.ownBlock = some k) (by
    exact ⟨hb.os, hb.tape, hb.output, hb.size, fun k hk _ => hb.block k hk⟩) (fun k h => .inr (.inr h)) (fun k h => .inr (.inl h))
theorem Wnt.lt {Z : Nat → Prop} {w : World} {v : Value} {L : List (List Int)} (h : Wnt Z w v L) : ∀ k, v.ownBlock = some k → k < w.heap.size := by
  obtain ⟨vs, ho, _⟩ := h.own
  exact fun k hk => (ho.lt k hk).2
theorem Wnt.recs {Z : Nat → Prop} {w : World} {v : Value} {L : List (List Int)} (h : Wnt Z w v L) (ho : ∀ p, p ∈ L → Octets p) : ∃ A c, v = .slice A L.length c ∧ Recs (fun k => Z k ∨ v.ownBlock = some k) w A c L := by
  obtain ⟨vs, hown, hl⟩ := h.own
  rcases hown.2 with ⟨rfl, hx⟩ | ⟨g, cap, cur, rfl, hb, hh, hnc, hcs⟩
  · have h0 : L.length = 0 := by have := hown.1; rw [hx] at this; simp at this; omega
    have h1 : L = [] := List.eq_nil_of_length_eq_zero h0
    subst h1
    exact ⟨none, 0, rfl, recs0 _ _⟩
  · refine ⟨some ⟨g, 0, none⟩, cap, rfl, hnc, ho, fun j p hj => ?_⟩
    have hjl : j < L.length := by
      rcases Nat.lt_or_ge j L.length with h1 | h1
      · exact h1
      · rw [List.getElem?_eq_none h1] at hj; cases hj
    obtain ⟨A', c', e, hz, hf⟩ := hl j p hj
    refine ⟨g, 0, rfl, .inr rfl, ?_, A', c', ?_, hz, fun _ a ha => ⟨.inl (hf a ha).1, (hf a ha).2⟩⟩
    · rcases Nat.lt_or_ge g w.heap.size with h1 | h1
      · exact h1
      · rw [Array.getElem?_eq_none h1] at hh; cases hh
    · rw [Nat.zero_add, hown.cellAt j (by have := hown.1; omega)]; exact e
theorem Wnt.more {Z : Nat → Prop} {w w' : World} {v v' : Value} {L : List (List Int)} {vs : List Value} {p : List Int} {A : Option Addr} {c : Nat} (hp : El w p A c) (hpa : ∀ a, A = some a → Z a.block ∧ a.block < w.heap.size) (hap : ∀ k, v.ownBlock = some k → ¬ Z k) (hZ : ∀ k, Z k → k < w.heap.size)
    (hl : ∀ (j : Nat) (p : List Int), L[j]? = some p → ∃ A' c', vs[j]? = some (Value.slice A' p.length c') ∧ El w p A' c' ∧ ∀ a, A' = some a → Z a.block ∧ a.block < w.heap.size) (hvl : vs.length = L.length)
    (ho : w'.ownsRow 0 31 1 v' (L.length + 1) (vs ++ [.slice A p.length c])) (hg : w.grownBy w' v.ownBlock) (hat : v'.ownBlock = v.ownBlock ∨ v'.ownBlock = some w.heap.size) : Wnt Z w' v' (L ++ [p]) := by
  have still : ∀ {q : List Int} {A' : Option Addr} {c' : Nat}, El w q A' c' → (∀ a, A' = some a → Z a.block ∧ a.block < w.heap.size) → El w' q A' c' ∧ ∀ a, A' = some a → Z a.block ∧ a.block < w'.heap.size := fun h h2 =>
    ⟨⟨h.lies.grown hg (fun a ha e => hap _ e.symm (h2 a ha).1), h.le, h.nil⟩, fun a ha => ⟨(h2 a ha).1, Nat.lt_of_lt_of_le (h2 a ha).2 hg.size⟩⟩
  refine ⟨⟨vs ++ [.slice A p.length c], by rw [List.length_append]; exact ho, fun j q hj => ?_⟩, fun k hk hz => ?_⟩
  · by_cases hlt : j < L.length
    · rw [List.getElem?_append_left hlt] at hj
      obtain ⟨A', c', e, h1, h2⟩ := hl j q hj
      exact ⟨A', c', by rw [List.getElem?_append_left (by omega)]; exact e, still h1 h2⟩
    · rw [List.getElem?_append_right (by omega)] at hj
      rcases Nat.eq_zero_or_pos (j - L.length) with h0 | h0
      · rw [h0] at hj
        simp at hj
        subst hj
        exact ⟨A, c, by rw [List.getElem?_append_right (by omega), hvl, h0]; rfl, still hp hpa⟩
      · rw [List.getElem?_eq_none (by simp; omega)] at hj; cases hj
  · rcases hat with e | e
    · exact hap k (by rw [← e]; exact hk) hz
    · rw [e] at hk
      injection hk with hk
      have := hZ k hz
      omega
theorem Dq.grow {X Y : Nat → Prop} {w w' : World} {g : Nat} {d : DS} {row : Option Nat} (h : Dq X w g d) (hg : w.grownBy w' row) (hr : ∀ k, row = some k → X k) (hY : ∀ k, Y k → X k ∨ (w.heap.size ≤ k ∧ k < w'.heap.size)) : Dq Y w' g d := by
  obtain ⟨S, h, h1, h2⟩ := h
  refine ⟨S, h.kept hg.size fun k hk => hg.block k (h.lt k hk) fun e => h1 k hk (hr k e.symm), fun k hk y => ?_, fun k hk => ?_⟩
  · rcases hY k y with z | z
    · exact h1 k hk z
    · have := h.lt k hk; omega
  · rcases hY k hk with z | z
    · exact Nat.lt_of_lt_of_le (h2 k z) hg.size
    · exact z.2
theorem Wq.grow {X Y : Nat → Prop} {w w' : World} {p g : Nat} {d : DS} {x : WS} {row : Option Nat} (h : Wq X w p g d x) (hg : w.grownBy w' row) (hr : ∀ k, row = some k → X k) (hY : ∀ k, Y k → X k ∨ (w.heap.size ≤ k ∧ k < w'.heap.size)) : Wq Y w' p g d x :=
  ⟨h.q.grow hg (fun k e => .inl (hr k e)) fun k hk => by
      rcases hk with hk | hk
      · exact (hY k hk).imp .inl id
      · exact .inl (.inr hk),
    h.row.grown hg (fun e => h.apart (hr _ e.symm)), fun hk => by
      rcases hY _ hk with z | z
      · exact h.apart z
      · have := h.row.lt; omega⟩
/-- Along a law's loop: the Wal, and the records that are wanted: in Y, and in a row of its own. -/
structure Wk (W w : World) (Y : Nat → Prop) (p g : Nat) (d : DS) (x : WS) (v : Value) (L : List (List Int)) : Prop where
  low : Below W.heap.size W w
  q : Wq (fun k => Y k ∨ v.ownBlock = some k) w p g d x
  want : Wnt Y w v L
  xs : ∀ k, k < W.heap.size → Y k
section
variable {W w w' w1 : World} {Y : Nat → Prop} {p g : Nat} {d d' : DS} {x x' : WS} {v : Value} {L : List (List Int)}
theorem Wk.start (h : Wl W w p g d x) : Wk W w (fun k => k < W.heap.size) p g d x (.slice none 0 0) [] := ⟨h.low, h.q.less fun k hk => hk.elim id fun e => (by cases e), Wnt.nil _ _, fun _ h => h⟩
theorem Wk.below (h : Wk W w Y p g d x v L) (hb : Below w.heap.size w w') : Wk W w' Y p g d x v L := ⟨kept_trans h.low hb, h.q.below hb, h.want.below hb, h.xs⟩
theorem Wk.small (h : Wk W w Y p g d x v L) : ∀ k, Y k → k < w.heap.size := fun k hk => h.q.q.small k (.inl (.inl hk))
theorem Wk.disk (h : Wk W w Y p g d x v L) : Dq (fun k => Y k ∨ v.ownBlock = some k) w g d := h.q.q.less fun _ hk => .inl hk
theorem Wk.wl (h : Wk W w Y p g d x v L) : Wl W w p g d x := ⟨h.low, h.q.less fun k hk => .inl (h.xs k hk)⟩
/-- An operation of the Wal, in a world behind it. -/
theorem Wk.op {X : Nat → Prop} {y : Int} {e : Ending} (h : Wk W w Y p g d x v L) (hb : Below w.heap.size w w1) (hX : ∀ k, Y k ∨ v.ownBlock = some k → X k) (h2 : WqP X w1 p g y d' x' e w') : e = .returned (.int .i64 y) ∧ Wk W w' Y p g d' x' v L := by
  have hk : Kx (fun k => Y k ∨ v.ownBlock = some k) w w' := (Kx.of_below hb).trans (h2.2.2.mono hX)
  exact ⟨h2.1, h.low.trans (hk.below h.low.size fun k hk => .inl (h.xs k hk)), h2.2.1.less hX, h.want.kx hk (fun k hk => .inr hk) (fun k hk => .inl hk), h.xs⟩
theorem Wk.add {Y' : Nat → Prop} {A : Option Addr} {n c : Nat} {F : List (List Int)} {y : Int} (h : Wk W w Y p g d x v L) (hb : Below w.heap.size w w1) (hr : Recs Y' w1 A c F) (hY : ∀ k, Y' k → Y k ∨ v.ownBlock = some k ∨ (w.heap.size ≤ k ∧ k < w1.heap.size)) (hn : F.length = n) (hl : n ≤ 100000) (hs : ∀ q, q ∈ F → q.length ≤ 1000000)
    (hG : x.G < 99) (hK : x.K < 99) (hln : d.l.length ≤ 80) (hx : adE d x F = y ∧ adS d x F = d' ∧ adW d x F = x') :
    Calls Tryz.prog 12 #[.pointer (some ⟨p, 0, none⟩), .slice A n c] w1 fun e w' => e = .returned (.int .i64 y) ∧ Wk W w' Y p g d' x' v L := by
  obtain ⟨rfl, rfl, rfl⟩ := hx
  have hq := h.q.more (Y := fun k => (Y k ∨ v.ownBlock = some k) ∨ (w.heap.size ≤ k ∧ k < w1.heap.size)) hb fun k hk => hk
  exact (add_any hq (by omega) hK (by omega) hr (fun k hk => by rcases hY k hk with z | z | z; exact .inl (.inl z); exact .inl (.inr z); exact .inr z) hn hl hs).mono fun e w2 h2 => h.op hb (fun k hk => .inl hk) h2
/-- One record more is wanted. -/
theorem Wk.grow {vs : List Value} {q : List Int} {A : Option Addr} {c : Nat} {v' : Value} (h : Wk W w Y p g d x v L) (hb : Below w.heap.size w w1) (hp : El w q A c) (hpa : ∀ a, A = some a → Y a.block ∧ a.block < w.heap.size)
    (hl : ∀ (j : Nat) (q : List Int), L[j]? = some q → ∃ A' c', vs[j]? = some (Value.slice A' q.length c') ∧ El w1 q A' c' ∧ ∀ a, A' = some a → Y a.block ∧ a.block < w1.heap.size) (hvl : vs.length = L.length) (hv : ∀ k, v.ownBlock = some k → W.heap.size ≤ k)
    (ho : w'.ownsRow 0 31 1 v' (L.length + 1) (vs ++ [.slice A q.length c])) (hg : w1.grownBy w' v.ownBlock) (hat : v'.ownBlock = v.ownBlock ∨ v'.ownBlock = some w1.heap.size) : Wk W w' Y p g d x v' (L ++ [q]) := by
  have h1 := h.below hb
  have hY := h1.small
  refine ⟨h1.low.trans ⟨hg.os, hg.tape, hg.output, hg.size, fun k hk => hg.block k (Nat.lt_of_lt_of_le hk h1.low.size) fun e => by have := hv k e.symm; omega⟩, h1.q.grow hg (fun k e => .inr e) fun k hk => ?_, Wnt.more (hp.below hb) (fun a ha => ⟨(hpa a ha).1, Nat.lt_of_lt_of_le (hpa a ha).2 hb.size⟩) h.want.apart hY hl hvl ho hg hat, h.xs⟩
  rcases hk with hk | hk
  · exact .inl (.inl hk)
  · rcases hat with e | e
    · exact .inl (.inr (by rw [← e]; exact hk))
    · rw [e] at hk
      injection hk with hk
      subst hk
      refine .inr ⟨Nat.le_refl _, ?_⟩
      have := (ho.lt w1.heap.size e).2
      exact this
end
theorem Wnt.recs_at {Z : Nat → Prop} {w : World} {A : Option Addr} {n c : Nat} {L : List (List Int)} (h : Wnt Z w (.slice A n c) L) (ho : ∀ p, p ∈ L → Octets p) : ∃ Y, Recs Y w A c L := by
  obtain ⟨A', c', e, hr⟩ := h.recs ho
  injection e with e1 _ e3
  subst e1 e3
  exact ⟨_, hr⟩
theorem Wk.open {W w : World} {Y : Nat → Prop} {p g m : Nat} {d : DS} {x : WS} {v : Value} {L M : List (List Int)} (h : Wk W w Y p g d x v L) (hs : Sm m d.l) (hm : m ≤ 60) (h1 : opE d = 0) (h4 : opL d = M) :
    Calls Tryz.prog 11 #[.pointer (some ⟨g, 0, none⟩)] w fun e w' => ∃ (P : Nat) (A : Option Addr) (c : Nat), e = .returned (.tuple #[.pointer (some ⟨P, 0, none⟩), .slice A M.length c, .int .i64 0]) ∧ Wk W w' Y P g (opS d) ⟨opG d, (opZ d).k, false⟩ v L ∧ Recs (fun k => w.heap.size ≤ k) w' A c M := by
  subst h4
  refine (open_any h.disk hs hm).mono fun e w2 h2 => ?_
  obtain ⟨hk, ⟨h5, _⟩ | ⟨_, P, A, c, Z, rfl, hP, hZ, hq, hr⟩⟩ := h2
  · exact absurd h1 h5
  · exact ⟨P, A, c, rfl, ⟨h.low.trans (hk.below h.low.size fun k hk => .inl (h.xs k hk)), hq.less fun k hk => .inl hk, h.want.kx hk (fun k hk => .inr hk) (fun k hk => .inl hk), h.xs⟩, hr.mono fun k hk _ => (hZ k hk).1⟩
/-- One record that came in, in a row made just now. -/
theorem recs_one {W w : World} {A : Option Addr} {n c : Nat} {zs : List Int} (h : SliceIn W A n c zs) (hb : Below W.heap.size W w) (h0 : 0 < zs.length) : Recs (fun k => k < W.heap.size ∨ (w.heap.size ≤ k ∧ k < (w.alloc (.cells #[.slice A n c] 31)).heap.size)) (w.alloc (.cells #[.slice A n c] 31)) (some ⟨w.heap.size, 0, none⟩) 1 [zs] := by
  refine ⟨Nat.le_refl _, fun p hp => by rcases List.mem_singleton.1 hp with rfl; exact h.oct, fun j p hj => ?_⟩
  rcases j with _ | j
  · simp at hj
    subst hj
    refine ⟨w.heap.size, 0, rfl, .inr ⟨Nat.le_refl _, by simp⟩, by simp, A, c, ?_, ⟨(h.lies.below hb).alloc _, by have := h.len; have := h.le; omega, h.nil⟩, fun _ a ha => ?_⟩
    · rw [h.len]; exact (Row.new w 31 #[.slice A n c]).cell 0
    · obtain ⟨b, off, e, hlt, _⟩ := h.lies h0
      rw [e] at ha; injection ha with ha; subst ha
      exact ⟨.inl hlt, by have := hb.size; show b < _; simp; omega⟩
  · simp at hj
end Go.Proofs.YtkmcnhjfnjikaaaGreatDoor
