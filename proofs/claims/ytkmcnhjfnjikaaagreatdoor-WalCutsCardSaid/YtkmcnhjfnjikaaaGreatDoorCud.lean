/- A disk and two rows of records, along WalCuts. Conditions: as the calls' own. -/
import Derived.Test.YtkmcnhjfnjikaaaGreatDoorCuc
import Derived.Test.YtkmcnhjfnjikaaaGreatDoorKew
import Derived.Test.YtkmcnhjfnjikaaaGreatDoorPps
namespace Go.Proofs.YtkmcnhjfnjikaaaGreatDoor
open Go.RowKit Go.Maps
theorem Recs.first {Y : Nat → Prop} {w : World} {A : Option Addr} {c : Nat} {L : List (List Int)} (h : Recs Y w A c L) (k : Nat) : Recs Y w A c (L.take k) :=
  ⟨by have := h.le; rw [List.length_take]; omega, fun p hp => h.oct p (List.mem_of_mem_take hp), fun j p hj => h.at' j p (by
    rcases Nat.lt_or_ge j k with h1 | h1
    · rw [List.getElem?_take_of_lt h1] at hj; exact hj
    · rw [List.getElem?_take_eq_none h1] at hj; cases hj)⟩
theorem Recs.rest {Y : Nat → Prop} {w : World} {A : Option Addr} {c : Nat} {L : List (List Int)} (h : Recs Y w A c L) (k : Nat) : Recs Y w (partA A c k) (c - k) (L.drop k) :=
  ⟨by have := h.le; rw [List.length_drop]; omega, fun p hp => h.oct p (List.mem_of_mem_drop hp), fun j p hj => by
    rw [List.getElem?_drop] at hj
    obtain ⟨b, off, e, h1, h2, A', c', h3, h4⟩ := h.at' (k + j) p hj
    have hlt : k + j < L.length := by
      rcases Nat.lt_or_ge (k + j) L.length with h5 | h5
      · exact h5
      · rw [List.getElem?_eq_none h5] at hj; cases hj
    have hle := h.le
    refine ⟨b, off + k, ?_, h1, h2, A', c', by rw [Nat.add_assoc]; exact h3, h4⟩
    unfold partA
    rw [if_neg (by omega), e]
    show some (Addr.add ⟨b, off, none⟩ k) = _
    rw [Go.WideShapes.add_plain]⟩
/-- lists, in a world behind one in which both lie. -/
theorem lists_b {Y Y' : Nat → Prop} {A B : Option Addr} {n m c d : Nat} {L M : List (List Int)} {w7 w : World} (hA : Recs Y w7 A c L) (hB : Recs Y' w7 B d M) (hn : L.length = n) (hm : M.length = m) (ln : n ≤ 100000) (lm : m ≤ 100000)
    (sL : ∀ p, p ∈ L → p.length ≤ 1000000) (sM : ∀ p, p ∈ M → p.length ≤ 1000000) (hb : Below w7.heap.size w7 w) :
    Calls Tryz.prog 26 #[.slice A n c, .slice B m d] w fun e w' => e = .returned (.bool (decide (L = M))) ∧ Below w7.heap.size w7 w' :=
  (lists_any (hA.below hb) (hB.below hb) hn hm ln lm sL sM).mono fun _ _ ⟨h1, q, h2⟩ => ⟨h1, by rw [h2]; exact below_drewN' hb q⟩
/-- A disk at g, a row of records of its own, another one. -/
structure Wd (W w : World) (Y : Nat → Prop) (g : Nat) (d : DS) (v : Value) (L : List (List Int)) (v2 : Value) (M : List (List Int)) : Prop where
  low : Below W.heap.size W w
  q : Dq (fun k => Y k ∨ v.ownBlock = some k) w g d
  want : Wnt Y w v L
  came : Wnt (fun k => k < W.heap.size) w v2 M
  own : ∀ k, v2.ownBlock = some k → Y k
  xs : ∀ k, k < W.heap.size → Y k
section
variable {W w w' : World} {Y : Nat → Prop} {p g : Nat} {d d' : DS} {x : WS} {v v2 : Value} {L M : List (List Int)}
theorem Wd.step (h : Wd W w Y g d v L v2 M) (hq : Dq (fun k => Y k ∨ v.ownBlock = some k) w' g d') (hk : Kx (fun k => Y k ∨ v.ownBlock = some k) w w') : Wd W w' Y g d' v L v2 M :=
  ⟨h.low.trans (hk.below h.low.size fun k hk => .inl (h.xs k hk)), hq, h.want.kx hk (fun _ hk => .inr hk) (fun _ hk => .inl hk), h.came.kx hk (fun k hk => .inl (h.own k hk)) (fun k hk => .inl (h.xs k hk)), h.own, h.xs⟩
theorem Wd.below (h : Wd W w Y g d v L v2 M) (hb : Below w.heap.size w w') : Wd W w' Y g d v L v2 M := h.step (h.q.below hb) (Kx.of_below hb)
theorem Wk.wd (h : Wk W w Y p g d x v L) (hc : Wnt (fun k => k < W.heap.size) w v2 M) (ho : ∀ k, v2.ownBlock = some k → Y k) : Wd W w Y g d v L v2 M := ⟨h.low, h.disk, h.want, hc, ho, h.xs⟩
theorem Wk.arm {n : Int} (h : Wk W w Y p g d x v L) (hn : -9223372036854775808 ≤ n ∧ n ≤ 9223372036854775807) :
    Calls Tryz.prog 22 #[.pointer (some ⟨g, 0, none⟩), .int .i64 n] w fun e w' => e = .returned (.tuple #[]) ∧ Wk W w' Y p g (armS d n) x v L ∧ Kx (fun k => Y k ∨ v.ownBlock = some k) w w' :=
  (arm_q h.q.q hn).mono fun _ _ ⟨h1, h2, h3⟩ => by
    obtain ⟨hq, hk⟩ := h.q.turn h2 h3
    exact ⟨h1, ⟨h.low.trans (hk.below h.low.size fun k hk => .inl (h.xs k hk)), hq, h.want.kx hk (fun k hk => .inr hk) (fun k hk => .inl hk), h.xs⟩, hk⟩
theorem Wd.arm {n : Int} (h : Wd W w Y g d v L v2 M) (hn : -9223372036854775808 ≤ n ∧ n ≤ 9223372036854775807) :
    Calls Tryz.prog 22 #[.pointer (some ⟨g, 0, none⟩), .int .i64 n] w fun e w' => e = .returned (.tuple #[]) ∧ Wd W w' Y g (armS d n) v L v2 M :=
  (arm_q h.q hn).mono fun _ _ ⟨h1, h2, h3⟩ => ⟨h1, h.step h2 h3⟩
theorem Wd.crash {A : Option Addr} {n c : Nat} {ps : List Int} (h : Wd W w Y g d v L v2 M) (hp : IntsIn W A n c ps) (hn : n ≤ 20) (hln : d.l.length ≤ 100) :
    Calls Tryz.prog 24 #[.pointer (some ⟨g, 0, none⟩), .slice A n c] w fun e w' => e = .returned (.tuple #[]) ∧ Wd W w' Y g (craS d ps) v L v2 M :=
  (crash_q h.q (by omega) (hp.lies.below h.low) hp.len (by omega) (fun hn2 a ha => by
    obtain ⟨b, off, e, hlt, _⟩ := hp.lies hn2
    rw [e] at ha; injection ha with ha; subst ha
    exact .inl (h.xs _ hlt)) hp.ok).mono fun _ _ ⟨h1, h2, h3⟩ => ⟨h1, h.step h2 h3⟩
/-- Open, whatever it answers. -/
theorem Wd.open {m : Nat} (h : Wd W w Y g d v L v2 M) (hs : Sm m d.l) (hm : m ≤ 60) :
    Calls Tryz.prog 11 #[.pointer (some ⟨g, 0, none⟩)] w fun e w' => ∃ (P A : Option Addr) (n c : Nat) (z : Int), e = .returned (.tuple #[.pointer P, .slice A n c, .int .i64 z]) ∧ Wd W w' Y g (opS d) v L v2 M :=
  (open_any h.q hs hm).mono fun _ _ h2 => by
    obtain ⟨hk, ⟨_, rfl, hq⟩ | ⟨_, P, A, c, Z, rfl, hP, hZ, hq, hr⟩⟩ := h2
    · exact ⟨none, none, 0, 0, _, rfl, h.step hq hk⟩
    · exact ⟨some ⟨P, 0, none⟩, A, _, c, 0, rfl, h.step (hq.q.less fun k hk => .inl (.inl hk)) hk⟩
/-- Open, where it has no error. -/
theorem Wd.last {m : Nat} (h : Wd W w Y g d v L v2 M) (hs : Sm m d.l) (hm : m ≤ 60) (he : opE d = 0) :
    Calls Tryz.prog 11 #[.pointer (some ⟨g, 0, none⟩)] w fun e w' => ∃ (P : Nat) (A : Option Addr) (c : Nat), e = .returned (.tuple #[.pointer (some ⟨P, 0, none⟩), .slice A (opL d).length c, .int .i64 0]) ∧ Wd W w' Y g (opS d) v L v2 M ∧ Recs (fun k => w.heap.size ≤ k) w' A c (opL d) :=
  (open_any h.q hs hm).mono fun _ _ h2 => by
    obtain ⟨hk, ⟨h5, _⟩ | ⟨_, P, A, c, Z, rfl, hP, hZ, hq, hr⟩⟩ := h2
    · exact absurd he h5
    · exact ⟨P, A, c, rfl, h.step (hq.q.less fun k hk => .inl (.inl hk)) hk, hr.mono fun k hk _ => (hZ k hk).1⟩
end
end Go.Proofs.YtkmcnhjfnjikaaaGreatDoor
