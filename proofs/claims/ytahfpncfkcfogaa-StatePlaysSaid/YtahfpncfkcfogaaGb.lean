/- Pairs by rising keys, in plain words: where a key stands, what is put, taken out, listed. No condition: nothing here speaks of a program. -/
import Derived.Test.YtahfpncfkcfogaaGa
import Derived.Test.YtahfpncfkcfogaaProg
import Derived.WalkKit
import Derived.WalkSpells
import Derived.WalkLawsBesides
import Derived.LoopTactic
import Derived.BigQuiet
import Derived.Deep.QuietTactic
import Derived.Lib.AppendZerosOnto
import Derived.Deep.DeepCutAuto
import Derived.Deep.RegionHeld3
import Derived.Laws.StructEq
namespace Go.Proofs.Ytahfpncfkcfogaa
open Go.RowKit
/-- A pair. -/
structure Pr where
  k : ByteArray
  v : ByteArray
  n : Int
deriving DecidableEq
/-- Its cells. -/
def Pr.l (p : Pr) : List Value := [.string p.k, .string p.v, .int .i64 p.n]
def zeroP : Pr := ⟨nilT, nilT, 0⟩
def prV (l : List Pr) : List (List Value) := l.map Pr.l
theorem prV_all (l : List Pr) : AllV 3 (prV l) := fun x hx => by
  unfold prV at hx
  obtain ⟨p, _, rfl⟩ := List.mem_map.1 hx
  exact ⟨rfl, fun u hu => by simp [Pr.l] at hu; rcases hu with rfl | rfl | rfl <;> rfl⟩
theorem prV_len (l : List Pr) : (prV l).length = l.length := List.length_map _
theorem prV_append (l m : List Pr) : prV (l ++ m) = prV l ++ prV m := List.map_append
theorem prV_at {l : List Pr} {k : Nat} {p : Pr} (h : l[k]? = some p) : (prV l)[k]? = some p.l := by unfold prV; rw [List.getElem?_map, h]; rfl
/-- From address A on there lie the pairs l. -/
def Prs (w : World) (A : Option Addr) (l : List Pr) : Prop := Els 3 w A (prV l)
section
variable {w w' : World} {A : Option Addr} {l : List Pr}
theorem Prs.nil_ : Prs w A [] := Els.nil_
theorem Prs.none_ (h : Prs w none l) : l = [] := by
  have := Els.none_ h
  unfold prV at this
  exact List.map_eq_nil_iff.1 this
theorem Prs.at_ {k : Nat} {p : Pr} (h : Prs w A l) (hk : l[k]? = some p) : ∃ b off, A = some ⟨b, off, none⟩ ∧ b < w.heap.size ∧ w.cell? ⟨b, off + k * 3, none⟩ = some (.string p.k) ∧ w.cell? ⟨b, off + k * 3 + 1, none⟩ = some (.string p.v) ∧ w.cell? ⟨b, off + k * 3 + 2, none⟩ = some (.int .i64 p.n) := by
  obtain ⟨b, off, e, hb, hc⟩ := Els.at_ h (prV_at hk)
  exact ⟨b, off, e, hb, hc 0 (by omega), hc 1 (by omega), hc 2 (by omega)⟩
theorem Prs.below (h : Prs w A l) (hb : Below w.heap.size w w') : Prs w' A l := Els.below h hb
theorem Prs.alloc (h : Prs w A l) (o : Obj) : Prs (w.alloc o) A l := Els.alloc h o
theorem Prs.drewN (h : Prs w A l) (n : Nat) : Prs (w.drewN n) A l := h
theorem Prs.drew (h : Prs w A l) : Prs w.drew A l := h
theorem Prs.take (h : Prs w A l) (n : Nat) : Prs w A (l.take n) := by
  have := Els.take h n
  unfold Prs prV at *
  rwa [List.map_take]
theorem Prs.rest {c : Nat} (h : Prs w A l) (hc : l.length ≤ c) (i : Nat) : Prs w (partV 3 A c i) (l.drop i) := by
  have := Els.rest h (by rw [prV_len]; exact hc) i
  unfold Prs prV at *
  rwa [List.map_drop]
theorem Prs.grown {row : Option Nat} (h : Prs w A l) (hg : w.grownBy w' row) (hne : ∀ a, A = some a → some a.block ≠ row) : Prs w' A l := Els.grown h hg hne
end
/-! ### What is said of lists -/
/-- May the pair be stored. -/
def mayB (p : Pr) : Bool := !nilB p.k && (decide (p.k.size ≤ 16) && (decide (p.v.size ≤ 64) && decide (1 ≤ p.n)))
/-- Is the pair at j fine, and above the one ahead. -/
def okAt (l : List Pr) (j : Nat) : Bool :=
  match l[j]? with
  | none => false
  | some p => mayB p && (j == 0 || (match l[j - 1]? with
    | none => false
    | some q => ltB q.k p.k))
/-- Is the pair at j above the one ahead. -/
def upAt (l : List Pr) (j : Nat) : Bool := match l[j - 1]?, l[j]? with
  | some q, some p => ltB q.k p.k
  | _, _ => false
def RightL (l : List Pr) : Prop := l.length ≤ 32 ∧ ∀ j, j < l.length → okAt l j = true
noncomputable def rightB (l : List Pr) : Bool := @decide (RightL l) (Classical.propDecidable _)
theorem right_true {l : List Pr} (h : RightL l) : rightB l = true := by unfold rightB; exact @decide_eq_true _ (Classical.propDecidable _) h
theorem right_false {l : List Pr} (h : ¬ RightL l) : rightB l = false := by unfold rightB; exact @decide_eq_false _ (Classical.propDecidable _) h
/-- Do the keys rise. -/
def Rises (l : List Pr) : Prop := ∀ j, 0 < j → j < l.length → upAt l j = true
/-- How many stand ahead of the key: the first whose key is not below it. -/
def st (l : List Pr) (key : ByteArray) : Nat := (l.takeWhile fun p => ltB p.k key).length
/-- Does it stand there. -/
def isB (l : List Pr) (key : ByteArray) : Bool := match l[st l key]? with
  | some p => eqB p.k key
  | none => false
/-- The pair of the key. -/
def getP (l : List Pr) (key : ByteArray) : Pr := if isB l key = true then (l[st l key]?).getD zeroP else zeroP
/-- Is it refused for room. -/
def fullB (l : List Pr) (key : ByteArray) : Bool := !isB l key && decide (32 ≤ l.length)
/-- The version of what is put. -/
def verP (l : List Pr) (key : ByteArray) : Int := if isB l key = true then IntKind.i64.wrap ((getP l key).n + 1) else 1
/-- What is left behind it. -/
def behP (l : List Pr) (key : ByteArray) : Nat := if isB l key = true then st l key + 1 else st l key
def putP (l : List Pr) (key value : ByteArray) : List Pr := l.take (st l key) ++ (⟨key, value, verP l key⟩ :: l.drop (behP l key))
def delP (l : List Pr) (key : ByteArray) : List Pr := if isB l key = true then l.take (st l key) ++ l.drop (st l key + 1) else l
/-- Those that the span has. -/
def inP (l : List Pr) (lo hi : ByteArray) : List Pr := l.filter fun p => hasB lo hi p.k
def rngP (l : List Pr) (lo hi : ByteArray) : List Pr := (inP l lo hi).take 8
def moreB (l : List Pr) (lo hi : ByteArray) : Bool := decide (8 < (inP l lo hi).length)
theorem st_le (l : List Pr) (key : ByteArray) : st l key ≤ l.length := by
  unfold st; exact List.Sublist.length_le (List.takeWhile_sublist _)
theorem takeWhile_at {α : Type} (f : α → Bool) : ∀ (l : List α) (j : Nat), j < (l.takeWhile f).length → ∃ p, l[j]? = some p ∧ f p = true
  | [], j, h => by simp at h
  | x :: r, j, h => by
    rw [List.takeWhile_cons] at h
    by_cases hx : f x = true
    · rw [if_pos hx] at h
      cases j with
      | zero => exact ⟨x, rfl, hx⟩
      | succ j => simpa using takeWhile_at f r j (by simpa using h)
    · rw [if_neg hx] at h; simp at h
theorem takeWhile_is {α : Type} (f : α → Bool) : ∀ (l : List α) (j : Nat), (∀ i, i < j → ∃ p, l[i]? = some p ∧ f p = true) → (∀ p, l[j]? = some p → f p = false) → (l.takeWhile f).length = j
  | [], j, h, _ => by
    cases j with
    | zero => rfl
    | succ j => obtain ⟨p, hp, _⟩ := h 0 (by omega); simp at hp
  | x :: r, j, h, h2 => by
    cases j with
    | zero =>
      have := h2 x rfl
      rw [List.takeWhile_cons, if_neg (by rw [this]; simp)]; rfl
    | succ j =>
      obtain ⟨p, hp, hf⟩ := h 0 (by omega)
      simp at hp; subst hp
      rw [List.takeWhile_cons, if_pos hf, List.length_cons, takeWhile_is f r j (fun i hi => by simpa using h (i + 1) (by omega)) (fun p hp => h2 p (by simpa using hp))]
/-- Ahead of where a key stands all are below it. -/
theorem st_below {l : List Pr} {key : ByteArray} {j : Nat} (h : j < st l key) : ∃ p, l[j]? = some p ∧ ltB p.k key = true := takeWhile_at _ l j h
theorem st_is {l : List Pr} {key : ByteArray} {j : Nat} (h : ∀ i, i < j → ∃ p, l[i]? = some p ∧ ltB p.k key = true) (h2 : ∀ p, l[j]? = some p → ltB p.k key = false) : st l key = j := takeWhile_is _ l j h h2
theorem st_not {l : List Pr} {key : ByteArray} {p : Pr} (h : l[st l key]? = some p) : ltB p.k key = false := by
  unfold st at h
  have : ∀ (l : List Pr) (p : Pr), l[(l.takeWhile fun p => ltB p.k key).length]? = some p → ltB p.k key = false := by
    intro l
    induction l with
    | nil => intro p hp; simp at hp
    | cons x r ih =>
      intro p hp
      rw [List.takeWhile_cons] at hp
      cases hx : ltB x.k key
      · simp [hx] at hp; subst hp; exact hx
      · simp [hx] at hp; exact ih p hp
  exact this l p h
theorem isB_some {l : List Pr} {key : ByteArray} (h : isB l key = true) : ∃ p, l[st l key]? = some p ∧ p.k = key ∧ getP l key = p ∧ st l key < l.length := by
  have h0 := h
  unfold isB at h
  split at h
  · rename_i p hp
    refine ⟨p, hp, (eq_iff _ _).1 h, ?_, ?_⟩
    · unfold getP; rw [if_pos h0, hp]; rfl
    · rcases Nat.lt_or_ge (st l key) l.length with h1 | h1
      · exact h1
      · rw [List.getElem?_eq_none h1] at hp; cases hp
  · cases h
theorem getP_none {l : List Pr} {key : ByteArray} (h : isB l key = false) : getP l key = zeroP := by unfold getP; rw [if_neg (by rw [h]; simp)]
end Go.Proofs.Ytahfpncfkcfogaa
/- Where a key stands: the program's find, the document's at. Conditions: the list lies in memory, its length has room. -/
namespace Go.Proofs.Ytahfpncfkcfogaa
open Go.RowKit
/-- Ahead of place k all keys are below it. -/
def Ahead (l : List Pr) (key : ByteArray) (k : Nat) : Prop := ∀ j, j < k → ∃ p, l[j]? = some p ∧ ltB p.k key = true
theorem Ahead.none_ (l : List Pr) (key : ByteArray) : Ahead l key 0 := fun j hj => absurd hj (by omega)
theorem Ahead.next {l : List Pr} {key : ByteArray} {k : Nat} {p : Pr} (h : Ahead l key k) (hp : l[k]? = some p) (hx : ltB p.k key = true) : Ahead l key (k + 1) := fun j hj => by
  rcases Nat.lt_or_ge j k with h1 | h1
  · exact h j h1
  · obtain rfl : j = k := by omega
    exact ⟨p, hp, hx⟩
/-- What find answers. -/
def foundV (l : List Pr) (key : ByteArray) : Value := .tuple #[.int .i64 (st l key : Nat), .bool (isB l key)]
theorem Ahead.here {l : List Pr} {key : ByteArray} {k : Nat} {p : Pr} (h : Ahead l key k) (hp : l[k]? = some p) (hx : ltB p.k key = false) {t : Bool} (ht : eqB p.k key = t) : foundV l key = .tuple #[.int .i64 (k : Nat), .bool t] := by
  have e := st_is h (fun q hq => by rw [hp] at hq; cases hq; exact hx)
  unfold foundV isB
  rw [e, hp]
  simp only [ht]
theorem Ahead.end_ {l : List Pr} {key : ByteArray} (h : Ahead l key l.length) : foundV l key = .tuple #[.int .i64 (l.length : Nat), .bool false] := by
  have e := st_is h (fun q hq => by rw [List.getElem?_eq_none (Nat.le_refl _)] at hq; cases hq)
  unfold foundV isB
  rw [e, List.getElem?_eq_none (Nat.le_refl _)]
set_option maxHeartbeats 2000000 in
theorem find_any (A : Option Addr) (n c : Nat) (l : List Pr) (key : ByteArray) (w : World) (hn : l.length = n) (hl : Prs w A l) (ln : n ≤ 4611686018427387904) :
    Calls Try.prog 100 #[.slice A n c, .string key] w fun e w' => e = .returned (foundV l key) ∧ Below w.heap.size w w' := by
  subst hn
  have HL := hide hl
  clear hl
  go_enter Try.func100, Try.ntmps100
  go_wp2
  go_loopw [10] (fun i wr => ∃ k : Nat, k ≤ l.length ∧ i = .int .i64 k ∧ Hid (Ahead l key k) ∧ Hid (Below w.heap.size w wr)) (fun i _ => l.length - (intOf i).toNat)
  case atStart => exact ⟨0, by omega, rfl, Ahead.none_ l key, Below.refl _ _⟩
  case round =>
    obtain ⟨k, hk, rfl, hs, hb⟩ := hrel
    by_cases hlt : k < l.length
    · obtain ⟨p, hp⟩ : ∃ p, l[k]? = some p := ⟨_, List.getElem?_eq_getElem hlt⟩
      obtain ⟨b, o, rfl, hbs, c0, c1, c2⟩ := (Prs.below HL.out hb.out).at_ hp
      have HP := hide hp
      clear hp
      cases hx : ltB p.k key
      · obtain ⟨t, ht⟩ : ∃ t, eqB p.k key = t := ⟨_, rfl⟩
        have HE := hide (hs.out.here HP.out hx ht)
        have h1 := hx
        unfold ltB at h1
        have h2 := ht
        unfold eqB at h2
        clear hx ht
        go_wp2
        go_quiet (fail)
        go_wp2
        go_ret2
        exact ⟨by rw [HE.out]; rfl, kept_drewN ((hb.out.alloc hb.out.size _)) _⟩
      · have HE := hide (hs.out.next HP.out hx)
        have h1 := hx
        unfold ltB at h1
        clear hx
        go_wp2
        go_roundw
        case rel => exact ⟨k + 1, by omega, by go_num, HE, hb.out.alloc hb.out.size _⟩
        case measure => simp [intOf]; omega
    · obtain rfl : k = l.length := by omega
      have HE := hide hs.out.end_
      go_wp2
      go_ret2
      exact ⟨by rw [HE.out]; rfl, hb.out⟩
set_option maxHeartbeats 2000000 in
theorem rat_any (A : Option Addr) (n c : Nat) (l : List Pr) (key : ByteArray) (w : World) (hn : l.length = n) (hl : Prs w A l) (ln : n ≤ 4611686018427387904) :
    Calls Try.prog 68 #[.slice A n c, .string key] w fun e w' => e = .returned (foundV l key) ∧ ∃ q, w' = w.drewN q := by
  subst hn
  have HL := hide hl
  clear hl
  go_enter Try.func68, Try.ntmps68
  go_wp2
  go_loopw [6] (fun i wr => ∃ k : Nat, k ≤ l.length ∧ i = .int .i64 k ∧ Hid (Ahead l key k) ∧ Hid (wr = w)) (fun i _ => l.length - (intOf i).toNat)
  case atStart => exact ⟨0, by omega, rfl, Ahead.none_ l key, hide rfl⟩
  case round =>
    obtain ⟨k, hk, rfl, hs, hw⟩ := hrel
    obtain rfl := hw.out
    by_cases hlt : k < l.length
    · obtain ⟨p, hp⟩ : ∃ p, l[k]? = some p := ⟨_, List.getElem?_eq_getElem hlt⟩
      obtain ⟨b, o, rfl, hbs, c0, c1, c2⟩ := HL.out.at_ hp
      have HP := hide hp
      clear hp
      cases hx : ltB p.k key
      · obtain ⟨t, ht⟩ : ∃ t, eqB p.k key = t := ⟨_, rfl⟩
        have HE := hide (hs.out.here HP.out hx ht)
        have h1 := hx
        unfold ltB at h1
        have h2 := ht
        unfold eqB at h2
        clear hx ht
        go_wp2
        go_quiet (fail)
        go_wp2
        go_ret2
        exact ⟨by rw [HE.out]; rfl, _, rfl⟩
      · have HE := hide (hs.out.next HP.out hx)
        have h1 := hx
        unfold ltB at h1
        clear hx
        go_wp2
        go_roundw
        case rel => exact ⟨k + 1, by omega, by go_num, HE, hide (by first | rfl | trivial)⟩
        case measure => simp [intOf]; omega
    · obtain rfl : k = l.length := by omega
      have HE := hide hs.out.end_
      go_wp2
      go_ret2
      exact ⟨by rw [HE.out]; rfl, 0, rfl⟩
end Go.Proofs.Ytahfpncfkcfogaa
/- What slices.Grow of nothing, and slices.Concat of slices of pairs, come to. Conditions: the slices lie in memory, their lengths have room. -/
namespace Go.Proofs.Ytahfpncfkcfogaa
open Go.RowKit
/-- A slice value that is the list l. -/
def Pin (w : World) (v : Value) (l : List Pr) : Prop := ∃ A c, v = .slice A l.length c ∧ (A = none → c = 0) ∧ l.length ≤ c ∧ c ≤ 9223372036854775807 ∧ Prs w A l
/-- A row of these pairs of the call's own. -/
def Mine (base : Nat) (w : World) (v : Value) (l : List Pr) : Prop := w.ownsRow base 47 3 v l.length (cellsV (prV l))
theorem Pin.below {w w' : World} {v : Value} {l : List Pr} (h : Pin w v l) (hb : Below w.heap.size w w') : Pin w' v l := by
  obtain ⟨A, c, e, h1, h2, h3, h4⟩ := h
  exact ⟨A, c, e, h1, h2, h3, h4.below hb⟩
theorem Pin.nil_ (w : World) : Pin w (.slice none 0 0) [] := ⟨none, 0, rfl, fun _ => rfl, Nat.le_refl _, by omega, Prs.nil_⟩
theorem Mine.nil_ (base : Nat) (w : World) : Mine base w (.slice none 0 0) [] := ⟨rfl, .inl ⟨rfl, rfl⟩⟩
theorem Mine.pin {base : Nat} {w : World} {v : Value} {l : List Pr} (h : Mine base w v l) : Pin w v l := by
  obtain ⟨A, c, rfl, h1, h2, h3, _⟩ := own_form h
  refine ⟨A, c, rfl, h1, h2, ?_, (els_own h (prV_all _) (by omega)).1⟩
  unfold maxLen at h3; omega
theorem Mine.lt {base : Nat} {w : World} {v : Value} {l : List Pr} (h : Mine base w v l) : ∀ k, v.ownBlock = some k → base ≤ k := fun k hk => by
  unfold Mine at h
  exact (h.lt k hk).1
/-- A made slice and something else are answered. -/
def Ans (w : World) (l : List Pr) (u : Value) (e : Ending) (w' : World) : Prop := ∃ v, e = .returned (.tuple #[v, u]) ∧ Mine w.heap.size w' v l ∧ Below w.heap.size w w'
def MadeP (w : World) (l : List Pr) (e : Ending) (w' : World) : Prop := ∃ v, e = .returned v ∧ Mine w.heap.size w' v l ∧ Below w.heap.size w w'
theorem pair_parts : ∃ i, Try.prog.info? 47 = some i ∧ i.zero = some (.agg #[.string ⟨#[]⟩, .string ⟨#[]⟩, .int .i64 0]) ∧ i.size = 3 ∧ i.bytes = 40 := 
  info_parts (show (Try.prog.info? 47).map (fun i => (i.zero, i.size, i.bytes)) = some (some (.agg #[.string ⟨#[]⟩, .string ⟨#[]⟩, .int .i64 0]), 3, 40) by kernel_rfl)
theorem under_pairs : Try.prog.underlying 22 = some (.slice 47) := by kernel_rfl
set_option maxRecDepth 100000 in
set_option maxHeartbeats 2000000 in
theorem grow_nil (n : Nat) (w : World) (ln : n ≤ 3518437208883) :
    Calls Try.prog 99 #[.slice none 0 0, .int .i64 n] w (MadeP w []) := by
  rcases Nat.eq_zero_or_pos n with h0 | h0
  · subst h0
    go_enter Try.func99, Try.ntmps99
    go_wp2
    go_ret
    exact ⟨_, rfl, ⟨rfl, .inl ⟨rfl, rfl⟩⟩, Below.refl _ _⟩
  · obtain ⟨i0, hi, hz0, hz1, hz2⟩ := pair_parts
    have hrz := fun ty => Lib.run_append_nil_zeros w 22 3 ty 47 i0 _ .i64 .i64 under_pairs Try.underlying3 hi hz0 n h0 (by omega) (by omega) (by rw [hz2]; omega)
    have hcap := grownCap_le_maxLen w n 0 47 (by unfold maxLen; omega)
    have hge := grownCap_ge w n 0 47
    have hlen : ∀ k, (Builtin.zeroCells (Value.agg #[.string ⟨#[]⟩, .string ⟨#[]⟩, .int .i64 0]).cells k).size = k * 3 := by intro k; simp [Builtin.zeroCells, Value.cells]
    generalize grownCap w n 0 47 = G at *
    have hZ : (Builtin.zeroCells (Value.agg #[.string ⟨#[]⟩, .string ⟨#[]⟩, .int .i64 0]).cells n ++ Builtin.zeroCells (Value.agg #[.string ⟨#[]⟩, .string ⟨#[]⟩, .int .i64 0]).cells (G - n)).size = G * 3 := by rw [Array.size_append, hlen, hlen]; omega
    generalize Builtin.zeroCells (Value.agg #[.string ⟨#[]⟩, .string ⟨#[]⟩, .int .i64 0]).cells n ++ Builtin.zeroCells (Value.agg #[.string ⟨#[]⟩, .string ⟨#[]⟩, .int .i64 0]).cells (G - n) = Z at *
    clear hi hz0 hz1 hz2
    have hcap' := hcap
    unfold maxLen at hcap'
    go_enter Try.func99, Try.ntmps99
    go_wp2_with (at_builtin; refine Lib.wpList_append_run _ rfl _ _ _ _ rfl _ _ rfl rfl _ _ (hrz _) ?_)
    go_ret
    refine ⟨_, rfl, ⟨rfl, .inr ⟨w.heap.size, G, Z, rfl, Nat.le_refl _, ?_, by simp, hcap, by omega, rfl⟩⟩, (Below.refl _ _).drew.alloc (Nat.le_refl _) _⟩
    show (w.drew.heap.push _)[w.drew.heap.size]? = _
    rw [Array.getElem?_push, if_pos rfl]
/-- A slice that Concat is given. -/
structure Src where
  A : Option Addr
  n : Nat
  c : Nat
  l : List Pr
structure Src.Ok (w : World) (s : Src) : Prop where
  len : s.l.length = s.n
  nil : s.A = none → s.c = 0
  lies : Prs w s.A s.l
def catP (ss : List Src) (k : Nat) : List Pr := (ss.take k).flatMap Src.l
theorem catP_succ {ss : List Src} {k : Nat} {s : Src} (h : ss[k]? = some s) : catP ss (k + 1) = catP ss k ++ s.l := by
  unfold catP
  rw [List.take_add_one, h, List.flatMap_append]
  simp
theorem catP_le {ss : List Src} {j k : Nat} (h : j ≤ k) : (catP ss j).length ≤ (catP ss k).length := by
  induction k with
  | zero => rw [show j = 0 by omega]; exact Nat.le_refl _
  | succ k ih =>
    rcases Nat.lt_or_ge k j with h1 | h1
    · rw [show j = k + 1 by omega]; exact Nat.le_refl _
    · refine Nat.le_trans (ih h1) ?_
      cases hs : ss[k]? with
      | none =>
        unfold catP
        rw [List.take_add_one, hs, List.flatMap_append]; simp
      | some s => rw [catP_succ hs, List.length_append]; omega
set_option maxRecDepth 100000 in
set_option maxHeartbeats 2000000 in
theorem concat_any (g m : Nat) (ss : List Src) (w : World) (hm : ss.length = m) (lm : m ≤ 1000) (ho : ∀ (k : Nat) (s : Src), ss[k]? = some s → s.Ok w) (hc : ∀ (k : Nat) (s : Src), ss[k]? = some s → w.cell? ⟨g, k, none⟩ = some (.slice s.A s.n s.c)) (hg : g < w.heap.size) (ln : (catP ss m).length ≤ 3518437208883) :
    Calls Try.prog 72 #[.slice (some ⟨g, 0, none⟩) m m] w (MadeP w (catP ss m)) := by
  have HG := hide (grow_nil (catP ss m).length w ln)
  have HO := hide ho
  have HC := hide hc
  have HS := hide hm
  clear ho hc hm
  go_enter Try.func72, Try.ntmps72
  go_wp2
  go_loopw [3, 11] (fun u i wr => ∃ k q : Nat, k ≤ m ∧ i = .int .i64 k ∧ u = .int .i64 q ∧ Hid (q = (catP ss k).length) ∧ Hid (wr = w)) (fun _ i _ => m - (intOf i).toNat)
  case atStart => exact ⟨0, 0, by omega, rfl, rfl, hide rfl, hide rfl⟩
  case round =>
    obtain ⟨k, q, hk, rfl, rfl, hq, hw⟩ := hrel
    have hw := hw.out.symm
    subst hw
    by_cases hlt : k < m
    · obtain ⟨s, hs⟩ : ∃ s, ss[k]? = some s := ⟨_, List.getElem?_eq_getElem (by rw [HS.out]; exact hlt)⟩
      have c0 := HC.out k s hs
      have hl := (HO.out k s hs).len
      have hle := catP_le (ss := ss) (show k + 1 ≤ m by omega)
      have HQ : Hid (q + s.n = (catP ss (k + 1)).length) := hide (by rw [catP_succ hs, List.length_append, hl, hq.out])
      rw [← HQ.out] at hle
      have hb : q + s.n ≤ 3518437208883 := Nat.le_trans hle ln
      clear hs hl hle
      go_wp2
      go_roundw
      case rel => exact ⟨k + 1, q + s.n, by omega, by go_num, by go_num, HQ, hide (by first | rfl | trivial)⟩
      case measure => simp [intOf]; omega
    · obtain rfl : k = m := by omega
      obtain rfl := hq.out
      go_wp2_with (go_at_call 99; (with_reducible refine HG.out.mono ?_); rintro e w1 ⟨v1, rfl, ho1, hb1⟩)
      have HO1 := hide ho1
      have HB1 := hide hb1
      clear ho1 hb1
      obtain ⟨i0, hi, hz0, hz1, hz2⟩ := pair_parts
      go_loopw [6, 27] (fun v i w2 => ∃ j : Nat, j ≤ k ∧ i = .int .i64 j ∧ Hid (Mine w.heap.size w2 v (catP ss j)) ∧ Hid (Below w.heap.size w w2)) (fun _ i _ => k - (intOf i).toNat)
      case atStart => exact ⟨0, by omega, rfl, HO1, HB1⟩
      case round =>
        obtain ⟨j, hj, rfl, HM, HB⟩ := hrel
        by_cases hlt : j < k
        · obtain ⟨s, hs⟩ : ∃ s, ss[j]? = some s := ⟨_, List.getElem?_eq_getElem (by rw [HS.out]; exact hlt)⟩
          have c0 := HC.out j s hs
          have d0 := (HB.out.cell (p := ⟨g, j, none⟩) hg).trans c0
          have OK := hide (HO.out j s hs)
          have hle := catP_le (ss := ss) (show j + 1 ≤ k by omega)
          rw [catP_succ hs, List.length_append, OK.out.len] at hle
          have E := hide (catP_succ hs)
          clear c0 hs
          have hsz := HB.out.size
          go_wp2_with (at_builtin; refine wpList_append_els rfl (.tmp 31) (.tmp 32) 22 rfl w.heap.size 47 i0 _ 40 under_pairs hi hz0 hz1 hz2 (by omega) rfl _ _ (prV (catP ss j)) rfl HM.out s.A s.n s.c (prV s.l) rfl (prV_all _) ((prV_len _).trans OK.out.len) OK.out.nil (OK.out.lies.below HB.out) (by omega) (by omega) hsz ?_; intro v3 w3 ho3 hb3)
          go_roundw
          case rel => exact ⟨j + 1, by omega, by go_num, hide (by unfold Mine; rw [E.out, List.length_append, OK.out.len, prV_append]; exact ho3), hide (HB.out.grown hb3 hsz (fun k hk => (Mine.lt HM.out k hk)))⟩
          case measure => simp [intOf]; omega
        · obtain rfl : j = k := by omega
          go_wp2
          go_ret
          exact ⟨_, rfl, HM.out, HB.out⟩
end Go.Proofs.Ytahfpncfkcfogaa
/- What package kv's Get, Put and Delete come to. Conditions: the list lies in memory, its length has room. -/
namespace Go.Proofs.Ytahfpncfkcfogaa
open Go.RowKit
/-- What is put, or nothing. -/
def putL (l : List Pr) (key value : ByteArray) : List Pr := if fullB l key = true then [] else putP l key value
def putE (l : List Pr) (key : ByteArray) : Int := if fullB l key = true then 7 else 0
theorem wrap_ver {l : List Pr} {key : ByteArray} {p : Pr} (h : getP l key = p) (hb : isB l key = true) : verP l key = IntKind.i64.wrap (p.n + 1) := by
  unfold verP; rw [if_pos hb, h]
/-- A fresh block of three cells, behind a call. -/
theorem fresh3 {w w1 : World} {t : TypeId} {x y z : Value} (hb : Below (w.alloc (.cells #[x, y, z] t)).heap.size (w.alloc (.cells #[x, y, z] t)) w1) :
    Row w1 w.heap.size t #[x, y, z] ∧ Below w.heap.size w w1 :=
  ⟨(Row.new w t _).below hb (by simp), (kept_alloc (kept_refl w) _).trans (hb.mono (by simp))⟩
theorem Row.three {w : World} {g : Nat} {t : TypeId} {x y z : Value} (h : Row w g t #[x, y, z]) : w.cell? ⟨g, 0, none⟩ = some x ∧ w.cell? ⟨g, 1, none⟩ = some y ∧ w.cell? ⟨g, 2, none⟩ = some z :=
  ⟨h.cell 0, h.cell 1, h.cell 2⟩
theorem Row.frees {w : World} {g : Nat} {t : TypeId} {x y z : Value} (h : Row w g t #[x, y, z]) : w.frozen? ⟨g, 0, none⟩ = false ∧ w.frozen? ⟨g, 1, none⟩ = false ∧ w.frozen? ⟨g, 2, none⟩ = false :=
  ⟨h.free 0, h.free 1, h.free 2⟩
theorem three_put {a b c u0 u1 u2 : Value} : (((#[a, b, c] : Array Value).setIfInBounds 0 u0).setIfInBounds 1 u1).setIfInBounds 2 u2 = #[u0, u1, u2] := by simp
theorem Row.put3 {w : World} {g : Nat} {t : TypeId} {x y z : Value} (h : Row w g t #[x, y, z]) (u0 u1 u2 : Value) : Row (((w.setCell ⟨g, 0, none⟩ u0).setCell ⟨g, 1, none⟩ u1).setCell ⟨g, 2, none⟩ u2) g t #[u0, u1, u2] := by
  have z := ((h.put 0 u0).put 1 u1).put 2 u2
  rw [three_put] at z
  exact z
/-- The answer out of its block, and one more. -/
theorem results_pair {fn : Func} {tmps : Array Value} {w : World} {a b h : Nat} {t : TypeId} {x y : ByteArray} {z : Int} {u : Value} (hf : fn.results = #[.cell a 47, .tmp b]) (ht : tmps[a]? = some (.pointer (some ⟨h, 0, none⟩))) (hu : tmps.getD b undef = u) (hr : Row w h t #[.string x, .string y, .int .i64 z]) :
    (results fn tmps).run Try.prog w = .ok (.tuple #[.agg #[.string x, .string y, .int .i64 z], u]) w := by
  obtain ⟨c0, c1, c2⟩ := hr.three
  rw [Array.getD_eq_getD_getElem?] at hu
  simp [results, hf, ht, hu, go_sem, c0, c1, c2]
theorem below_put3 {w w1 : World} {g : Nat} (h : Below w.heap.size w w1) (hg : w.heap.size ≤ g) (x y z : Value) : Below w.heap.size w (((w1.setCell ⟨g, 0, none⟩ x).setCell ⟨g, 1, none⟩ y).setCell ⟨g, 2, none⟩ z) :=
  ((h.setCell hg x).setCell hg y).setCell hg z
set_option maxRecDepth 100000 in
set_option maxHeartbeats 2000000 in
theorem get_any (v : Value) (l : List Pr) (key : ByteArray) (w : World) (h : Pin w v l) (ln : l.length ≤ 4611686018427387904) :
    Calls Try.prog 75 #[v, .string key] w fun e w' => e = .returned (.tuple #[.agg #[.string (getP l key).k, .string (getP l key).v, .int .i64 (getP l key).n], .bool (isB l key)]) ∧ Below w.heap.size w w' := by
  obtain ⟨A, c, rfl, hA, hc, hcc, hl⟩ := h
  have HF := hide (fun w1 h1 => find_any A l.length c l key w1 rfl h1 ln)
  have HL := hide hl
  clear hl
  obtain ⟨k, hk⟩ : ∃ k, st l key = k := ⟨_, rfl⟩
  obtain ⟨t, ht⟩ : ∃ t, isB l key = t := ⟨_, rfl⟩
  cases t
  · have e0 : foundV l key = .tuple #[.int .i64 (k : Nat), .bool false] := by unfold foundV; rw [hk, ht]
    rw [e0] at HF
    have hg := hide (getP_none ht)
    rw [hg.out, ht]
    clear e0 hk ht
    go_enter Try.func75, Try.ntmps75
    go_wp2_with (go_at_call 100; (with_reducible refine (HF.out _ ?_).mono ?_); first | (with_reducible exact HL.out) | (with_reducible exact HL.out.alloc _); rintro e w1 ⟨rfl, hb1⟩; obtain ⟨R, HB⟩ := fresh3 hb1; clear hb1; have HB := hide HB; obtain ⟨c0, c1, c2⟩ := R.three; obtain ⟨g0, g1, g2⟩ := R.frees; have R := hide R)
    exact bodyPost_ret (results_pair Try.results75 rfl rfl (R.out.put3 _ _ _)) rfl ⟨rfl, below_put3 HB.out (Nat.le_refl _) _ _ _⟩
  · have e0 : foundV l key = .tuple #[.int .i64 (k : Nat), .bool true] := by unfold foundV; rw [hk, ht]
    rw [e0] at HF
    obtain ⟨p, hp, -, hg, hlt⟩ := isB_some ht
    rw [hk] at hp hlt
    rw [hg, ht]
    have HP := hide hp
    clear e0 hk ht hg hp
    go_enter Try.func75, Try.ntmps75
    go_wp2_with (go_at_call 100; (with_reducible refine (HF.out _ ?_).mono ?_); first | (with_reducible exact HL.out) | (with_reducible exact HL.out.alloc _); rintro e w1 ⟨rfl, hb1⟩; obtain ⟨R, HB⟩ := fresh3 hb1; clear hb1; obtain ⟨b, o, rfl, hbs, d0, d1, d2⟩ := (HL.out.below HB).at_ HP.out; have HB := hide HB; obtain ⟨c0, c1, c2⟩ := R.three; obtain ⟨g0, g1, g2⟩ := R.frees; have R := hide R)
    exact bodyPost_ret (results_pair Try.results75 rfl rfl (R.out.put3 _ _ _)) rfl ⟨rfl, below_put3 HB.out (Nat.le_refl _) _ _ _⟩
end Go.Proofs.Ytahfpncfkcfogaa
/- What package kv's Put and Delete come to. Conditions: the list lies in memory, its length has room. -/
namespace Go.Proofs.Ytahfpncfkcfogaa
open Go.RowKit
theorem Mine.mono {b0 b1 : Nat} {w : World} {v : Value} {l : List Pr} (h : Mine b1 w v l) (hb : b0 ≤ b1) : Mine b0 w v l := by
  refine ⟨h.1, h.2.imp_right ?_⟩
  rintro ⟨g, cap, cur, h1, h2, h3⟩
  exact ⟨g, cap, cur, h1, Nat.le_trans hb h2, h3⟩
theorem MadeP.of {W w : World} {l l' : List Pr} {e : Ending} {w' : World} (h : MadeP w l e w') (hb : Below W.heap.size W w) (hl : l = l') : MadeP W l' e w' := by
  subst hl
  obtain ⟨v, he, ho, hb1⟩ := h
  exact ⟨v, he, ho.mono hb.size, kept_trans hb hb1⟩
theorem prs_one (w : World) (p : Pr) (t : TypeId) : Prs (w.alloc (.cells #[.string p.k, .string p.v, .int .i64 p.n] t)) (some ⟨w.heap.size, 0, none⟩) [p] :=
  els_row (l := prV [p]) (Row.new w t _) (prV_all _) (by simp [prV, cellsV, Pr.l])
/-- Concat of three slices whose row was just laid: ahead, one, behind. -/
theorem concat3 {A : Option Addr} {n c k B : Nat} {l : List Pr} {p : Pr} {w : World} {t t' : TypeId} (hn : l.length = n) (hl : Prs w A l) (hA : A = none → c = 0) (hk : k ≤ n) (hB : B ≤ n) (hc : n ≤ c) (ln : n ≤ 3518437208780) (hkB : k ≤ B) :
    Calls Try.prog 72 #[.slice (some ⟨w.heap.size + 1, 0, none⟩) 3 3]
      ((w.alloc (.cells #[.string p.k, .string p.v, .int .i64 p.n] t)).alloc (.cells #[.slice A k c, .slice (some ⟨w.heap.size, 0, none⟩) 1 1, .slice (partV 3 A c B) (n - B) (c - B)] t')) (MadeP w (l.take k ++ (p :: l.drop B))) := by
  subst hn
  have h1 := hl.alloc (.cells #[.string p.k, .string p.v, .int .i64 p.n] t)
  have ho := prs_one w p t
  have hsz : (w.alloc (.cells #[.string p.k, .string p.v, .int .i64 p.n] t)).heap.size = w.heap.size + 1 := by simp
  have hb := kept_alloc (kept_refl w) (.cells #[.string p.k, .string p.v, .int .i64 p.n] t)
  generalize w.alloc (.cells #[.string p.k, .string p.v, .int .i64 p.n] t) = w1 at *
  have h2 := h1.alloc (.cells #[.slice A k c, .slice (some ⟨w.heap.size, 0, none⟩) 1 1, .slice (partV 3 A c B) (l.length - B) (c - B)] t')
  have ho2 := ho.alloc (.cells #[.slice A k c, .slice (some ⟨w.heap.size, 0, none⟩) 1 1, .slice (partV 3 A c B) (l.length - B) (c - B)] t')
  have hR := Row.new w1 t' #[.slice A k c, .slice (some ⟨w.heap.size, 0, none⟩) 1 1, .slice (partV 3 A c B) (l.length - B) (c - B)]
  have hb2 := kept_alloc hb (.cells #[.slice A k c, .slice (some ⟨w.heap.size, 0, none⟩) 1 1, .slice (partV 3 A c B) (l.length - B) (c - B)] t')
  have hlt := hR.lt
  rw [hsz] at hR hlt
  generalize w1.alloc (.cells #[.slice A k c, .slice (some ⟨w.heap.size, 0, none⟩) 1 1, .slice (partV 3 A c B) (l.length - B) (c - B)] t') = w2 at *
  have e : catP [⟨A, k, c, l.take k⟩, ⟨some ⟨w.heap.size, 0, none⟩, 1, 1, [p]⟩, ⟨partV 3 A c B, l.length - B, c - B, l.drop B⟩] 3 = l.take k ++ (p :: l.drop B) := by
    unfold catP; simp
  refine (concat_any (w.heap.size + 1) 3 [⟨A, k, c, l.take k⟩, ⟨some ⟨w.heap.size, 0, none⟩, 1, 1, [p]⟩, ⟨partV 3 A c B, l.length - B, c - B, l.drop B⟩] w2 rfl (by omega) ?_ ?_ hlt ?_).mono fun _ _ h => h.of hb2 e
  · intro j s hs
    match j with
    | 0 => simp at hs; subst hs; exact ⟨by show (l.take k).length = k; rw [List.length_take]; omega, hA, h2.take k⟩
    | 1 => simp at hs; subst hs; exact ⟨rfl, (fun h => by cases h), ho2⟩
    | 2 => simp at hs; subst hs; exact ⟨by show (l.drop B).length = _; rw [List.length_drop], fun h => partV_none hA h, h2.rest hc B⟩
    | j + 3 => simp at hs
  · intro j s hs
    match j with
    | 0 => simp at hs; subst hs; exact hR.cell 0
    | 1 => simp at hs; subst hs; exact hR.cell 1
    | 2 => simp at hs; subst hs; exact hR.cell 2
    | j + 3 => simp at hs
  · rw [e, List.length_append, List.length_cons, List.length_take, List.length_drop]; omega
theorem concat2 {A : Option Addr} {n c k B : Nat} {l : List Pr} {w : World} {t' : TypeId} (hn : l.length = n) (hl : Prs w A l) (hA : A = none → c = 0) (hk : k ≤ n) (hB : B ≤ n) (hc : n ≤ c) (ln : n ≤ 3518437208780) (hkB : k ≤ B) :
    Calls Try.prog 72 #[.slice (some ⟨w.heap.size, 0, none⟩) 2 2]
      (w.alloc (.cells #[.slice A k c, .slice (partV 3 A c B) (n - B) (c - B)] t')) (MadeP w (l.take k ++ l.drop B)) := by
  subst hn
  have h2 := hl.alloc (.cells #[.slice A k c, .slice (partV 3 A c B) (l.length - B) (c - B)] t')
  have hR := Row.new w t' #[.slice A k c, .slice (partV 3 A c B) (l.length - B) (c - B)]
  have hb2 := kept_alloc (kept_refl w) (.cells #[.slice A k c, .slice (partV 3 A c B) (l.length - B) (c - B)] t')
  have hlt := hR.lt
  generalize w.alloc (.cells #[.slice A k c, .slice (partV 3 A c B) (l.length - B) (c - B)] t') = w2 at *
  have e : catP [⟨A, k, c, l.take k⟩, ⟨partV 3 A c B, l.length - B, c - B, l.drop B⟩] 2 = l.take k ++ l.drop B := by
    unfold catP; simp
  refine (concat_any w.heap.size 2 [⟨A, k, c, l.take k⟩, ⟨partV 3 A c B, l.length - B, c - B, l.drop B⟩] w2 rfl (by omega) ?_ ?_ hlt ?_).mono fun _ _ h => h.of hb2 e
  · intro j s hs
    match j with
    | 0 => simp at hs; subst hs; exact ⟨by show (l.take k).length = k; rw [List.length_take]; omega, hA, h2.take k⟩
    | 1 => simp at hs; subst hs; exact ⟨by show (l.drop B).length = _; rw [List.length_drop], fun h => partV_none hA h, h2.rest hc B⟩
    | j + 2 => simp at hs
  · intro j s hs
    match j with
    | 0 => simp at hs; subst hs; exact hR.cell 0
    | 1 => simp at hs; subst hs; exact hR.cell 1
    | j + 2 => simp at hs
  · rw [e, List.length_append, List.length_take, List.length_drop]; omega
theorem concat1 {A : Option Addr} {n c : Nat} {l : List Pr} {w : World} {t' : TypeId} (hn : l.length = n) (hl : Prs w A l) (hA : A = none → c = 0) (ln : n ≤ 3518437208780) :
    Calls Try.prog 72 #[.slice (some ⟨w.heap.size, 0, none⟩) 1 1]
      (w.alloc (.cells #[.slice A n c] t')) (MadeP w l) := by
  subst hn
  have h2 := hl.alloc (.cells #[.slice A l.length c] t')
  have hR := Row.new w t' #[.slice A l.length c]
  have hb2 := kept_alloc (kept_refl w) (.cells #[.slice A l.length c] t')
  have hlt := hR.lt
  generalize w.alloc (.cells #[.slice A l.length c] t') = w2 at *
  have e : catP [⟨A, l.length, c, l⟩] 1 = l := by unfold catP; simp
  refine (concat_any w.heap.size 1 [⟨A, l.length, c, l⟩] w2 rfl (by omega) ?_ ?_ hlt ?_).mono fun _ _ h => h.of hb2 e
  · intro j s hs
    match j with
    | 0 => simp at hs; subst hs; exact ⟨rfl, hA, h2⟩
    | j + 1 => simp at hs
  · intro j s hs
    match j with
    | 0 => simp at hs; subst hs; exact hR.cell 0
    | j + 1 => simp at hs
  · rw [e]; omega
end Go.Proofs.Ytahfpncfkcfogaa
/- What package kv's may and Right come to. Conditions: the list lies in memory, its length has room. -/
namespace Go.Proofs.Ytahfpncfkcfogaa
open Go.RowKit
theorem may_any (k v : ByteArray) (n : Int) (w : World) :
    Calls Try.prog 81 #[.agg #[.string k, .string v, .int .i64 n]] w fun e w' => e = .returned (.bool (mayB ⟨k, v, n⟩)) ∧ Below w.heap.size w w' := by
  cases h1 : nilB k
  all_goals
    obtain ⟨t1, ht1⟩ : ∃ t, decide ((k.size : Int) ≤ 16) = t := ⟨_, rfl⟩
    obtain ⟨t2, ht2⟩ : ∃ t, decide ((v.size : Int) ≤ 64) = t := ⟨_, rfl⟩
    obtain ⟨t3, ht3⟩ : ∃ t, decide (1 ≤ n) = t := ⟨_, rfl⟩
    have e : mayB ⟨k, v, n⟩ = (!nilB k && (t1 && (t2 && t3))) := by unfold mayB; subst ht1 ht2 ht3; norm_cast
    rw [e, h1]
    unfold nilB at h1
    clear e
    cases t1 <;> cases t2 <;> cases t3
    all_goals
      go_enter Try.func81, Try.ntmps81
      go_wp2
      go_ret
      exact ⟨rfl, (Below.refl _ _).alloc (Nat.le_refl _) _⟩
theorem le_not (a b : ByteArray) : (Op.bytesLess a.toList b.toList || a.toList == b.toList) = !ltB b a := by
  have e : (Op.bytesLess a.toList b.toList || a.toList == b.toList) = (ltB a b || eqB a b) := rfl
  rw [e]
  cases h1 : ltB b a
  · cases h2 : ltB a b
    · have := lt_or h1 h2
      subst this
      have : eqB b b = true := (eq_iff _ _).2 rfl
      simp [this]
    · rfl
  · cases h2 : ltB a b
    · cases h3 : eqB a b
      · rfl
      · have := (eq_iff _ _).1 h3
        subst this
        rw [lt_self] at h1; cases h1
    · have := lt_trans h1 h2
      rw [lt_self] at this; cases this
theorem ok_zero {l : List Pr} {p : Pr} (hp : l[0]? = some p) : okAt l 0 = mayB p := by unfold okAt; rw [hp]; simp
theorem ok_next {l : List Pr} {k : Nat} {p q : Pr} (hp : l[k + 1]? = some p) (hq : l[k]? = some q) : okAt l (k + 1) = (mayB p && ltB q.k p.k) := by
  unfold okAt; rw [hp, Nat.add_sub_cancel, hq]
  have : ((k + 1 : Nat) == 0) = false := by simp
  simp only [this, Bool.false_or]
theorem ok_grow {l : List Pr} {k : Nat} (h : ∀ j, j < k → okAt l j = true) (hk : okAt l k = true) : ∀ j, j < k + 1 → okAt l j = true := fun j hj => by
  rcases Nat.lt_or_ge j k with h1 | h1
  · exact h j h1
  · obtain rfl : j = k := by omega
    exact hk
theorem right_not {l : List Pr} {k : Nat} (hk : k < l.length) (h : okAt l k = false) : rightB l = false := right_false fun hr => by
  have := hr.2 k hk; rw [h] at this; cases this
/-- A pair in a block of its own, and a text elsewhere. -/
structure Rp (W w : World) (g : Nat) (p : Pr) (b x : Nat) (q : ByteArray) : Prop where
  c0 : w.cell? ⟨g, 0, none⟩ = some (.string p.k)
  c1 : w.cell? ⟨g, 1, none⟩ = some (.string p.v)
  c2 : w.cell? ⟨g, 2, none⟩ = some (.int .i64 p.n)
  d : w.cell? ⟨b, x, none⟩ = some (.string q)
  lg : g < w.heap.size
  lb : b < w.heap.size
  old : Below W.heap.size W w
theorem Rp.drew {W w : World} {g : Nat} {p : Pr} {b x : Nat} {q : ByteArray} (h : Rp W w g p b x q) : Rp W w.drew g p b x q := ⟨h.c0, h.c1, h.c2, h.d, h.lg, h.lb, h.old.drew⟩
theorem Rp.step {W w w' : World} {g : Nat} {p : Pr} {b x : Nat} {q : ByteArray} (h : Rp W w g p b x q) (hb : Below w.heap.size w w') : Rp W w' g p b x q :=
  ⟨(hb.cell (p := ⟨g, 0, none⟩) h.lg).trans h.c0, (hb.cell (p := ⟨g, 1, none⟩) h.lg).trans h.c1, (hb.cell (p := ⟨g, 2, none⟩) h.lg).trans h.c2, (hb.cell (p := ⟨b, x, none⟩) h.lb).trans h.d, Nat.lt_of_lt_of_le h.lg hb.size, Nat.lt_of_lt_of_le h.lb hb.size, h.old.trans (hb.mono h.old.size)⟩
theorem Rp.call {P : Program} {F : FuncId} {args : Array Value} {v : Value} {W w : World} {g : Nat} {p : Pr} {b x : Nat} {q : ByteArray} (h : Rp W w g p b x q) (hf : Calls P F args w fun e w' => e = .returned v ∧ Below w.heap.size w w') :
    Calls P F args w fun e w' => e = .returned v ∧ w'.cell? ⟨g, 0, none⟩ = some (.string p.k) ∧ w'.cell? ⟨g, 1, none⟩ = some (.string p.v) ∧ w'.cell? ⟨g, 2, none⟩ = some (.int .i64 p.n) ∧ w'.cell? ⟨b, x, none⟩ = some (.string q) ∧ Rp W w' g p b x q :=
  hf.mono fun _ _ ⟨he, hb⟩ => have s := h.step hb; ⟨he, s.c0, s.c1, s.c2, s.d, s⟩
theorem Rp.new {W w : World} {p : Pr} {b x : Nat} {q : ByteArray} (h : Below W.heap.size W w) (hb : b < w.heap.size) (hd : w.cell? ⟨b, x, none⟩ = some (.string q)) : Rp W (w.alloc (.cells #[.string p.k, .string p.v, .int .i64 p.n] 47)) w.heap.size p b x q := by
  have R := Row.new w 47 #[.string p.k, .string p.v, .int .i64 p.n]
  have hk := kept_alloc (kept_refl w) (.cells #[.string p.k, .string p.v, .int .i64 p.n] 47)
  exact ⟨R.cell 0, R.cell 1, R.cell 2, (hk.cell (p := ⟨b, x, none⟩) hb).trans hd, R.lt, Nat.lt_of_lt_of_le hb hk.size, h.trans (hk.mono h.size)⟩
set_option maxRecDepth 100000 in
set_option maxHeartbeats 2000000 in
theorem right_any (v : Value) (l : List Pr) (w : World) (h : Pin w v l) (ln : l.length ≤ 4611686018427387904) :
    Calls Try.prog 46 #[v] w fun e w' => e = .returned (.bool (rightB l)) ∧ Below w.heap.size w w' := by
  obtain ⟨A, c, rfl, hA, hc, hcc, hl⟩ := h
  have HL := hide hl
  clear hl
  by_cases hf : 32 < l.length
  · have e : rightB l = false := right_false fun hr => by have := hr.1; omega
    rw [e]
    go_enter Try.func46, Try.ntmps46
    go_wp2
    go_ret
    exact ⟨rfl, Below.refl _ _⟩
  · go_enter Try.func46, Try.ntmps46
    go_wp2
    go_loopw [10] (fun i wr => ∃ k : Nat, k ≤ l.length ∧ i = .int .i64 k ∧ Hid (∀ j, j < k → okAt l j = true) ∧ Hid (Below w.heap.size w wr)) (fun i _ => l.length - (intOf i).toNat)
    case atStart => exact ⟨0, by omega, rfl, fun j hj => absurd hj (by omega), Below.refl _ _⟩
    case round =>
      obtain ⟨k, hk, rfl, hs, hb⟩ := hrel
      by_cases hlt : k < l.length
      · obtain ⟨p, hp⟩ : ∃ p, l[k]? = some p := ⟨_, List.getElem?_eq_getElem hlt⟩
        have HLr := hide (HL.out.below hb.out)
        obtain ⟨b, o, rfl, hbs, c0, c1, c2⟩ := HLr.out.at_ hp
        have HP := hide hp
        clear hp
        have HM := hide (fun w1 => may_any p.k p.v p.n w1)
        cases hm : mayB p
        · have hm' : mayB ⟨p.k, p.v, p.n⟩ = false := hm
          rw [hm'] at HM
          have HE : Hid (rightB l = false) := hide (right_not hlt (by
            cases k with
            | zero => rw [ok_zero HP.out]; exact hm
            | succ j =>
              obtain ⟨q, hq⟩ : ∃ q, l[j]? = some q := ⟨_, List.getElem?_eq_getElem (by omega)⟩
              rw [ok_next HP.out hq, hm]; rfl))
          clear hm hm' hs
          go_upto_region 6 with (fail)
          have st := Rp.new (p := p) hb.out hbs c0
          obtain ⟨g, hg⟩ : ∃ g, wr.heap.size = g := ⟨_, rfl⟩
          rw [hg] at st ⊢
          generalize wr.alloc (.cells #[.string p.k, .string p.v, .int .i64 p.n] 47) = w2 at st ⊢
          refine wp_region_sp (fun w' => Rp w w' g p b (o + k * 3) p.k) (by kernel_rfl) (by kernel_rfl) st.drew ?_
          generalize hS : (fun w' => Rp w w' g p b (o + k * 3) p.k) = S
          have l0 : ∀ s : Sp S, s.w.cell? ⟨g, 0, none⟩ = some (.string p.k) := by subst hS; exact fun s => s.ok.c0
          have l1 : ∀ s : Sp S, s.w.cell? ⟨g, 1, none⟩ = some (.string p.v) := by subst hS; exact fun s => s.ok.c1
          have l2 : ∀ s : Sp S, s.w.cell? ⟨g, 2, none⟩ = some (.int .i64 p.n) := by subst hS; exact fun s => s.ok.c2
          have l3 : ∀ s : Sp S, s.w.cell? ⟨b, o + k * 3, none⟩ = some (.string p.k) := by subst hS; exact fun s => s.ok.d
          have ne : Nonempty (Sp S) := by subst hS; exact ⟨⟨_, st⟩⟩
          have STEP := hide (show ∀ w w', S w → Below w.heap.size w w' → S w' by subst hS; exact fun _ _ h hb => h.step hb)
          have OLD := hide (show ∀ s : Sp S, Below w.heap.size w s.w by subst hS; exact fun s => s.ok.old)
          clear c0 c1 c2 hg HLr hb hbs
          clear st hS
          repeat (go_big_quiet_step ((first | (go_at_call 81; with_reducible exact sp_call STEP.out _ (HM.out _)))))
          refine wpQuiet_nil ?_
          intro kk
          have OK := hide (OLD.out kk)
          generalize kk.w = wk at OK ⊢
          clear l0 l1 l2 l3 ne OLD STEP
          go_wp2
          go_ret
          exact ⟨by rw [HE.out]; rfl, OK.out⟩
        · have hm' : mayB ⟨p.k, p.v, p.n⟩ = true := hm
          rw [hm'] at HM
          clear hm'
          rcases Nat.eq_zero_or_pos k with h0 | h0
          · subst h0
            have HE := hide (ok_grow hs.out (by rw [ok_zero HP.out]; exact hm))
            rw [Nat.zero_mul, Nat.add_zero] at c0 c1 c2
            clear hm hs
            go_upto_region 6 with (fail)
            have st := Rp.new (p := p) hb.out hbs c0
            obtain ⟨g, hg⟩ : ∃ g, wr.heap.size = g := ⟨_, rfl⟩
            rw [hg] at st ⊢
            generalize wr.alloc (.cells #[.string p.k, .string p.v, .int .i64 p.n] 47) = w2 at st ⊢
            refine wp_region_sp (fun w' => Rp w w' g p b (o) p.k) (by kernel_rfl) (by kernel_rfl) st.drew ?_
            generalize hS : (fun w' => Rp w w' g p b (o) p.k) = S
            have l0 : ∀ s : Sp S, s.w.cell? ⟨g, 0, none⟩ = some (.string p.k) := by subst hS; exact fun s => s.ok.c0
            have l1 : ∀ s : Sp S, s.w.cell? ⟨g, 1, none⟩ = some (.string p.v) := by subst hS; exact fun s => s.ok.c1
            have l2 : ∀ s : Sp S, s.w.cell? ⟨g, 2, none⟩ = some (.int .i64 p.n) := by subst hS; exact fun s => s.ok.c2
            have l3 : ∀ s : Sp S, s.w.cell? ⟨b, o, none⟩ = some (.string p.k) := by subst hS; exact fun s => s.ok.d
            have ne : Nonempty (Sp S) := by subst hS; exact ⟨⟨_, st⟩⟩
            have STEP := hide (show ∀ w w', S w → Below w.heap.size w w' → S w' by subst hS; exact fun _ _ h hb => h.step hb)
            have OLD := hide (show ∀ s : Sp S, Below w.heap.size w s.w by subst hS; exact fun s => s.ok.old)
            clear c0 c1 c2 hg HLr hb hbs
            clear st hS
            repeat (go_big_quiet_step ((first | (go_at_call 81; with_reducible exact sp_call STEP.out _ (HM.out _)))))
            refine wpQuiet_nil ?_
            intro kk
            have OK := hide (OLD.out kk)
            generalize kk.w = wk at OK ⊢
            clear l0 l1 l2 l3 ne OLD STEP
            go_wp2
            go_roundw
            case rel => exact ⟨0 + 1, by omega, by go_num, HE, OK⟩
            case measure => simp [intOf]; omega
          · obtain ⟨j, rfl⟩ : ∃ j, k = j + 1 := ⟨k - 1, by omega⟩
            obtain ⟨q, hq⟩ : ∃ q, l[j]? = some q := ⟨_, List.getElem?_eq_getElem (by omega)⟩
            obtain ⟨b', o', e', _, d0, _, _⟩ := HLr.out.at_ hq
            cases e'
            obtain ⟨k, hk1⟩ : ∃ k, j + 1 = k := ⟨_, rfl⟩
            have hkw : IntKind.i64.wrap ((k : Int) - 1) = (j : Int) := by rw [IntKind.wrap_i64]; omega
            have hk0 : decide (0 < (k : Int)) = true := decide_eq_true (by omega)
            have hkn : decide (0 < k) = true := decide_eq_true (by omega)
            have hjl : j < l.length := by omega
            have hle := le_not p.k q.k
            cases ht : ltB q.k p.k
            · have HE : Hid (rightB l = false) := hide (right_not hlt (by rw [ok_next HP.out hq, hm, ht]; rfl))
              rw [ht] at hle
              rw [hk1] at hlt hk c0 c1 c2 ⊢
              clear hm hs hq ht HP
              go_upto_region 6 with (fail)
              have st := Rp.new (p := p) hb.out hbs d0
              obtain ⟨g, hg⟩ : ∃ g, wr.heap.size = g := ⟨_, rfl⟩
              rw [hg] at st ⊢
              generalize wr.alloc (.cells #[.string p.k, .string p.v, .int .i64 p.n] 47) = w2 at st ⊢
              refine wp_region_sp (fun w' => Rp w w' g p b (o + j * 3) q.k) (by kernel_rfl) (by kernel_rfl) st.drew ?_
              generalize hS : (fun w' => Rp w w' g p b (o + j * 3) q.k) = S
              have l0 : ∀ s : Sp S, s.w.cell? ⟨g, 0, none⟩ = some (.string p.k) := by subst hS; exact fun s => s.ok.c0
              have l1 : ∀ s : Sp S, s.w.cell? ⟨g, 1, none⟩ = some (.string p.v) := by subst hS; exact fun s => s.ok.c1
              have l2 : ∀ s : Sp S, s.w.cell? ⟨g, 2, none⟩ = some (.int .i64 p.n) := by subst hS; exact fun s => s.ok.c2
              have l3 : ∀ s : Sp S, s.w.cell? ⟨b, o + j * 3, none⟩ = some (.string q.k) := by subst hS; exact fun s => s.ok.d
              have ne : Nonempty (Sp S) := by subst hS; exact ⟨⟨_, st⟩⟩
              have STEP := hide (show ∀ w w', S w → Below w.heap.size w w' → S w' by subst hS; exact fun _ _ h hb => h.step hb)
              have OLD := hide (show ∀ s : Sp S, Below w.heap.size w s.w by subst hS; exact fun s => s.ok.old)
              clear c0 c1 c2 hg HLr hb hbs
              clear st hS
              repeat (go_big_quiet_step ((first | (go_at_call 81; with_reducible exact sp_call STEP.out _ (HM.out _)))))
              refine wpQuiet_nil ?_
              intro kk
              have OK := hide (OLD.out kk)
              generalize kk.w = wk at OK ⊢
              clear l0 l1 l2 l3 ne OLD STEP
              go_wp2
              go_ret
              exact ⟨by rw [HE.out]; rfl, OK.out⟩
            · have HE := hide (ok_grow hs.out (by rw [ok_next HP.out hq, hm, ht]; rfl))
              rw [hk1] at HE
              rw [ht] at hle
              rw [hk1] at hlt hk c0 c1 c2 ⊢
              clear hm hs hq ht HP
              go_upto_region 6 with (fail)
              have st := Rp.new (p := p) hb.out hbs d0
              obtain ⟨g, hg⟩ : ∃ g, wr.heap.size = g := ⟨_, rfl⟩
              rw [hg] at st ⊢
              generalize wr.alloc (.cells #[.string p.k, .string p.v, .int .i64 p.n] 47) = w2 at st ⊢
              refine wp_region_sp (fun w' => Rp w w' g p b (o + j * 3) q.k) (by kernel_rfl) (by kernel_rfl) st.drew ?_
              generalize hS : (fun w' => Rp w w' g p b (o + j * 3) q.k) = S
              have l0 : ∀ s : Sp S, s.w.cell? ⟨g, 0, none⟩ = some (.string p.k) := by subst hS; exact fun s => s.ok.c0
              have l1 : ∀ s : Sp S, s.w.cell? ⟨g, 1, none⟩ = some (.string p.v) := by subst hS; exact fun s => s.ok.c1
              have l2 : ∀ s : Sp S, s.w.cell? ⟨g, 2, none⟩ = some (.int .i64 p.n) := by subst hS; exact fun s => s.ok.c2
              have l3 : ∀ s : Sp S, s.w.cell? ⟨b, o + j * 3, none⟩ = some (.string q.k) := by subst hS; exact fun s => s.ok.d
              have ne : Nonempty (Sp S) := by subst hS; exact ⟨⟨_, st⟩⟩
              have STEP := hide (show ∀ w w', S w → Below w.heap.size w w' → S w' by subst hS; exact fun _ _ h hb => h.step hb)
              have OLD := hide (show ∀ s : Sp S, Below w.heap.size w s.w by subst hS; exact fun s => s.ok.old)
              clear c0 c1 c2 hg HLr hb hbs
              clear st hS
              repeat (go_big_quiet_step ((first | (go_at_call 81; with_reducible exact sp_call STEP.out _ (HM.out _)))))
              refine wpQuiet_nil ?_
              intro kk
              have OK := hide (OLD.out kk)
              generalize kk.w = wk at OK ⊢
              clear l0 l1 l2 l3 ne OLD STEP
              go_wp2
              go_roundw
              case rel => exact ⟨k + 1, by omega, by go_num, HE, OK⟩
              case measure => simp [intOf]; omega
      · obtain rfl : k = l.length := by omega
        have HE := hide (right_true (l := l) ⟨by omega, hs.out⟩)
        go_wp2
        go_ret
        exact ⟨by rw [HE.out]; rfl, hb.out⟩
end Go.Proofs.Ytahfpncfkcfogaa
/- What the document's RightPairs comes to. Conditions: the list lies in memory, its length has room. -/
namespace Go.Proofs.Ytahfpncfkcfogaa
open Go.RowKit
theorem may_not {l : List Pr} {k : Nat} {p : Pr} (hk : k < l.length) (hp : l[k]? = some p) (h : mayB p = false) : rightB l = false := right_not hk (by
  cases k with
  | zero => rw [ok_zero hp]; exact h
  | succ j =>
    obtain ⟨q, hq⟩ : ∃ q, l[j]? = some q := ⟨_, List.getElem?_eq_getElem (by omega)⟩
    rw [ok_next hp hq, h]; rfl)
set_option maxRecDepth 100000 in
set_option maxHeartbeats 4000000 in
theorem rright_any (v : Value) (l : List Pr) (w : World) (h : Pin w v l) (ln : l.length ≤ 4611686018427387904) :
    Calls Try.prog 49 #[v] w fun e w' => e = .returned (.bool (rightB l)) ∧ ∃ q, w' = w.drewN q := by
  obtain ⟨A, c, rfl, hA, hc, hcc, hl⟩ := h
  have HL := hide hl
  clear hl
  go_enter Try.func49, Try.ntmps49
  go_wp2
  go_loopw [3] (fun i wr => ∃ k q : Nat, k ≤ l.length ∧ i = .int .i64 k ∧ Hid (∀ j, j < k → okAt l j = true) ∧ wr = w.drewN q) (fun i _ => l.length - (intOf i).toNat)
  case atStart => exact ⟨0, 0, by omega, rfl, fun j hj => absurd hj (by omega), rfl⟩
  case round =>
    obtain ⟨k, q, hk, rfl, hs, rfl⟩ := hrel
    by_cases hlt : k < l.length
    · obtain ⟨p, hp⟩ : ∃ p, l[k]? = some p := ⟨_, List.getElem?_eq_getElem hlt⟩
      obtain ⟨b, o, rfl, hbs, c0, c1, c2⟩ := HL.out.at_ hp
      have HP := hide hp
      clear hp
      have hm : mayB p = (!nilB p.k && (decide (p.k.size ≤ 16) && (decide (p.v.size ≤ 64) && decide (1 ≤ p.n)))) := rfl
      have hnil : (p.k.toList == []) = nilB p.k := by unfold nilB; cases p.k.toList <;> rfl
      cases h1 : nilB p.k
      · rw [h1] at hm
        have h1' := h1
        unfold nilB at h1'
        by_cases h2 : p.k.size ≤ 16
        · have h2' : decide ((16 : Int) < (p.k.size : Int)) = false := decide_eq_false (by omega)
          rw [decide_eq_true h2] at hm
          by_cases h3 : p.v.size ≤ 64
          · have h3' : decide ((64 : Int) < (p.v.size : Int)) = false := decide_eq_false (by omega)
            rw [decide_eq_true h3] at hm
            by_cases h4 : 1 ≤ p.n
            · have h4' : decide (p.n < 1) = false := decide_eq_false (by omega)
              rw [decide_eq_true h4] at hm
              have hm : mayB p = true := hm
              rcases Nat.eq_zero_or_pos k with h0 | h0
              · subst h0
                have HE := hide (ok_grow hs.out (by rw [ok_zero HP.out]; exact hm))
                rw [Nat.zero_mul, Nat.add_zero] at c0 c1 c2
                clear hm hs hnil
                go_wp2
                go_quiet (fail)
                go_wp2
                go_roundw
                case rel => exact ⟨0 + 1, _, by omega, by go_num, HE, rfl⟩
                case measure => simp [intOf]; omega
              · obtain ⟨j, rfl⟩ : ∃ j, k = j + 1 := ⟨k - 1, by omega⟩
                obtain ⟨x, hq⟩ : ∃ q, l[j]? = some q := ⟨_, List.getElem?_eq_getElem (by omega)⟩
                obtain ⟨b', o', e', _, d0, _, _⟩ := HL.out.at_ hq
                cases e'
                obtain ⟨k, hk1⟩ : ∃ k, j + 1 = k := ⟨_, rfl⟩
                have hkw : IntKind.i64.wrap ((k : Int) - 1) = (j : Int) := by rw [IntKind.wrap_i64]; omega
                have hk0 : decide (0 < (k : Int)) = true := decide_eq_true (by omega)
                have hkn : decide (0 < k) = true := decide_eq_true (by omega)
                have hjl : j < l.length := by omega
                have hle : Op.bytesLess x.k.toList p.k.toList = ltB x.k p.k := rfl
                cases ht : ltB x.k p.k
                · have HE : Hid (rightB l = false) := hide (right_not hlt (by rw [ok_next HP.out hq, hm, ht]; rfl))
                  rw [ht] at hle
                  rw [hk1] at hlt hk c0 c1 c2 ⊢
                  clear hm hs hq ht HP hnil
                  go_wp2
                  go_quiet (fail)
                  go_wp2
                  go_ret
                  exact ⟨by rw [HE.out]; rfl, q + nq, by rw [World.drewN_drewN]⟩
                · have HE := hide (ok_grow hs.out (by rw [ok_next HP.out hq, hm, ht]; rfl))
                  rw [hk1] at HE
                  rw [ht] at hle
                  rw [hk1] at hlt hk c0 c1 c2 ⊢
                  clear hm hs hq ht HP hnil
                  go_wp2
                  go_quiet (fail)
                  go_wp2
                  go_roundw
                  case rel => exact ⟨k + 1, _, by omega, by go_num, HE, rfl⟩
                  case measure => simp [intOf]; omega
            · have h4' : decide (p.n < 1) = true := decide_eq_true (by omega)
              rw [decide_eq_false h4] at hm
              have HE := hide (may_not hlt HP.out hm)
              clear hm hs hnil
              go_wp2
              go_quiet (fail)
              go_wp2
              go_ret
              exact ⟨by rw [HE.out]; rfl, q + nq, by rw [World.drewN_drewN]⟩
          · have h3' : decide ((64 : Int) < (p.v.size : Int)) = true := decide_eq_true (by omega)
            rw [decide_eq_false h3] at hm
            have HE := hide (may_not hlt HP.out hm)
            clear hm hs hnil
            go_wp2
            go_quiet (fail)
            go_wp2
            go_ret
            exact ⟨by rw [HE.out]; rfl, q + nq, by rw [World.drewN_drewN]⟩
        · have h2' : decide ((16 : Int) < (p.k.size : Int)) = true := decide_eq_true (by omega)
          rw [decide_eq_false h2] at hm
          have HE := hide (may_not hlt HP.out hm)
          clear hm hs hnil
          go_wp2
          go_quiet (fail)
          go_wp2
          go_ret
          exact ⟨by rw [HE.out]; rfl, q + nq, by rw [World.drewN_drewN]⟩
      · rw [h1] at hm
        have h1' := h1
        unfold nilB at h1'
        have HE := hide (may_not hlt HP.out hm)
        clear hm hs hnil
        go_wp2
        go_quiet (fail)
        go_wp2
        go_ret
        exact ⟨by rw [HE.out]; rfl, q + nq, by rw [World.drewN_drewN]⟩
    · obtain rfl : k = l.length := by omega
      have HE : Hid (rightB l = decide ((l.length : Int) ≤ 32)) := hide (by
        by_cases h32 : l.length ≤ 32
        · rw [right_true ⟨h32, hs.out⟩, decide_eq_true (by omega)]
        · rw [right_false (fun hr => h32 hr.1), decide_eq_false (by omega)])
      go_wp2
      go_ret
      exact ⟨by rw [HE.out]; rfl, _, rfl⟩
end Go.Proofs.Ytahfpncfkcfogaa
/- '==' of pairs; concordbook.Same of lists of pairs. Conditions: the slices lie in memory, their lengths have room. -/
namespace Go.Proofs.Ytahfpncfkcfogaa
open Go.RowKit
theorem equal_pair (a b : ByteArray) (n : Int) (a' b' : ByteArray) (n' : Int) (w : World) : (Op.equalIn 10000 47 (.agg #[.string a, .string b, .int .i64 n]) (.agg #[.string a', .string b', .int .i64 n'])).run Try.prog w = .ok (eqB a a' && (eqB b b' && n == n')) w := by
  have u9 := Try.underlying9
  have a9 := Try.isAgg9
  have z9 := Try.sizeOf9
  have u3 := Try.underlying3
  have a3 := Try.isAgg3
  have z3 := Try.sizeOf3
  have hS : Try.prog.underlying 47 = some (.struct (Try.prog.fieldsOf 47)) := by kernel_rfl
  have hp : Try.prog.stoodInHeld 47 = false := by kernel_rfl
  rw [show (10000 : Nat) = 9999 + 1 from rfl, run_equalIn_agg w 9999 47 _ _ hS hp]
  simp only [Program.fieldsOf, Try.underlying47]
  go_simp
  unfold eqB
  cases h1 : (a.toList == a'.toList) <;> simp_all
  cases h2 : (b.toList == b'.toList) <;> simp_all
  cases h3 : (n == n') <;> simp_all
theorem pair_iff (p q : Pr) : (eqB p.k q.k && (eqB p.v q.v && p.n == q.n)) = decide (p = q) := by
  obtain ⟨a, b, n⟩ := p
  obtain ⟨a', b', n'⟩ := q
  rw [Bool.eq_iff_iff]
  simp [eq_iff]
theorem eql_pair (p q : Pr) (w : World) : (binOp .eql 47 (.agg #[.string p.k, .string p.v, .int .i64 p.n]) (.agg #[.string q.k, .string q.v, .int .i64 q.n])).run Try.prog w = .ok (.bool (decide (p = q))) w := by
  rw [run_eql_struct, equal_pair, pair_iff]; rfl
theorem neq_pair (p q : Pr) (w : World) : (binOp .neq 47 (.agg #[.string p.k, .string p.v, .int .i64 p.n]) (.agg #[.string q.k, .string q.v, .int .i64 q.n])).run Try.prog w = .ok (.bool (!decide (p = q))) w := by
  rw [run_neq_struct, equal_pair, pair_iff]; rfl
set_option maxHeartbeats 1000000 in
theorem k_same_any (A B : Option Addr) (n m c d : Nat) (zs ys : List Pr) (w : World) (hn : zs.length = n) (hm : ys.length = m) (hz : Prs w A zs) (hy : Prs w B ys) (ln : n ≤ 4611686018427387904) (lm : m ≤ 4611686018427387904) :
    Calls Try.prog 25 #[.slice A n c, .slice B m d] w fun e w' => e = .returned (.bool (decide (zs = ys))) ∧ ∃ q, w' = w.drewN q := by
  subst hn hm
  by_cases hl : zs.length = ys.length
  · have hb : ((zs.length : Int) != (ys.length : Int)) = false := by rw [hl]; simp
    have HL := hide hl
    clear hl
    go_enter Try.func25, Try.ntmps25
    go_wp2
    go_loopw [5] (fun i wr => ∃ k q : Nat, k ≤ zs.length ∧ i = .int .i64 k ∧ wr = w.drewN q ∧ Hid (∀ j, j < k → zs[j]? = ys[j]?)) (fun i _ => zs.length - (intOf i).toNat)
    case atStart => exact ⟨0, 0, by omega, rfl, rfl, fun j hj => absurd hj (by omega)⟩
    case round =>
      obtain ⟨k, q, hk, rfl, rfl, hs⟩ := hrel
      by_cases hlt : k < zs.length
      · have hl := HL.out
        obtain ⟨x, hx⟩ : ∃ x, zs[k]? = some x := ⟨_, List.getElem?_eq_getElem hlt⟩
        obtain ⟨y, hyy⟩ : ∃ x, ys[k]? = some x := ⟨_, List.getElem?_eq_getElem (by omega)⟩
        obtain ⟨b1, o1, rfl, _, c0, c1, c2⟩ := hz.at_ hx
        obtain ⟨b2, o2, rfl, _, d0, d1, d2⟩ := hy.at_ hyy
        have heq := neq_pair x y
        have lt1 : k < ys.length := by omega
        have Hz := hide hz; have Hy := hide hy; have HX := hide hx; have HY := hide hyy; clear hz hy hx hyy hl
        by_cases he : x = y
        · rw [decide_eq_true he] at heq
          have HE := hide he
          clear he
          go_wp2
          go_quiet (fail)
          go_wp2
          go_roundw
          case rel => exact ⟨k + 1, _, by omega, by go_num, rfl, fun j hj => by
            rcases Nat.lt_or_ge j k with h1 | h1
            · exact hs.out j h1
            · obtain rfl : j = k := by omega
              rw [HX.out, HY.out, HE.out]⟩
          case measure => simp [intOf]; omega
        · rw [decide_eq_false he] at heq
          have HE := hide he
          clear he
          go_wp2
          go_quiet (fail)
          go_wp2
          go_ret
          refine ⟨ret_bool ?_, _, World.drewN_drewN _ _ _⟩
          symm; rw [decide_eq_false_iff_not]; rintro rfl
          have := HX.out.symm.trans HY.out
          exact HE.out (Option.some.inj this)
      · go_wp2
        go_ret
        refine ⟨ret_bool ?_, _, rfl⟩
        symm; rw [decide_eq_true_iff]
        apply List.ext_getElem?
        intro j
        rcases Nat.lt_or_ge j k with h1 | h1
        · exact hs.out j h1
        · rw [List.getElem?_eq_none (by omega), List.getElem?_eq_none (by have := HL.out; omega)]
  · have hb : ((zs.length : Int) != (ys.length : Int)) = true := by simp; omega
    have HL := hide hl
    clear hl
    go_enter Try.func25, Try.ntmps25
    go_wp2
    go_ret
    exact ⟨ret_bool (by symm; rw [decide_eq_false_iff_not]; rintro rfl; exact HL.out rfl), 0, rfl⟩
end Go.Proofs.Ytahfpncfkcfogaa
/- What package kv's Put and Delete come to. Conditions: the list lies in memory, its length has room. -/
namespace Go.Proofs.Ytahfpncfkcfogaa
open Go.RowKit
set_option maxRecDepth 100000 in
set_option maxHeartbeats 2000000 in
theorem put_any (v : Value) (l : List Pr) (key value : ByteArray) (w : World) (h : Pin w v l) (ln : l.length ≤ 3518437208780) :
    Calls Try.prog 76 #[v, .string key, .string value] w (Ans w (putL l key value) (.int .i64 (putE l key))) := by
  obtain ⟨A, c, rfl, hA, hc, hcc, hl⟩ := h
  have HF := hide (find_any A l.length c l key w rfl hl (by omega))
  have HL := hide hl
  clear hl
  obtain ⟨k, hk⟩ : ∃ k, st l key = k := ⟨_, rfl⟩
  obtain ⟨t, ht⟩ : ∃ t, isB l key = t := ⟨_, rfl⟩
  cases t
  · have e0 : foundV l key = .tuple #[.int .i64 (k : Nat), .bool false] := by unfold foundV; rw [hk, ht]
    rw [e0] at HF
    by_cases hf : 32 ≤ l.length
    · have e1 : putL l key value = [] := by unfold putL fullB; rw [ht]; simp [hf]
      have e2 : putE l key = 7 := by unfold putE fullB; rw [ht]; simp [hf]
      rw [e1, e2]
      clear e0 e1 e2 hk ht
      go_enter Try.func76, Try.ntmps76
      go_wp2_with (go_at_call 100; (with_reducible refine HF.out.mono ?_); rintro e w1 ⟨rfl, hb1⟩)
      go_ret2
      exact ⟨_, rfl, Mine.nil_ _ _, hb1⟩
    · have hlen := st_le l key
      rw [hk] at hlen
      have e1 : putL l key value = l.take k ++ (⟨key, value, 1⟩ :: l.drop k) := by unfold putL fullB putP verP behP; rw [ht, hk]; simp [hf]
      have e2 : putE l key = 0 := by unfold putE fullB; rw [ht]; simp [hf]
      rw [e1, e2]
      clear e0 e1 e2 hk ht
      have hpv : ∀ (A : Option Addr) (c : Nat), (if c = k then A else Option.map (fun x => x.add (k * 3)) A) = partV 3 A c k := fun _ _ => rfl
      have HK := hide hlen
      have HJ := hide hlen
      have HKJ := hide (Nat.le_refl k)
      go_enter Try.func76, Try.ntmps76
      go_upto_region 8 with (go_at_call 100; (with_reducible refine HF.out.mono ?_); rintro e w1 ⟨rfl, hb1⟩)
      have R := Row.new w1 47 #[.string key, .string value, .int .i64 1]
      have HB := hide (kept_alloc hb1 (.cells #[.string key, .string value, .int .i64 1] 47))
      have HL2 := (HL.out.below hb1).alloc (.cells #[.string key, .string value, .int .i64 1] 47)
      clear hb1 HF HL
      obtain ⟨c0, c1, c2⟩ := R.three
      clear R
      generalize w1.heap.size = g at *
      generalize w1.alloc _ = w2 at *
      have HC : Hid (Calls Try.prog 72 #[.slice (some ⟨w2.heap.size + 1, 0, none⟩) 3 3]
          ((w2.alloc (.cells #[.string key, .string value, .int .i64 1] 47)).alloc (.cells #[.slice A k c, .slice (some ⟨w2.heap.size, 0, none⟩) 1 1, .slice (partV 3 A c k) (l.length - k) (c - k)] 22)).drew
          (MadeP w2.drew (l.take k ++ (⟨key, value, 1⟩ :: l.drop k)))) :=
        hide (concat3 (w := w2.drew) (p := ⟨key, value, 1⟩) (t := 47) (t' := 22) rfl HL2.drew hA HK.out HJ.out hc ln HKJ.out)
      clear HL2
      go_region_with (go_at_call 72; (with_reducible refine HC.out.mono ?_); rintro e w3 ⟨v3, rfl, ho3, hb3⟩)
      all_goals
        go_wp2
        go_ret2
        exact ⟨_, rfl, ho3.mono HB.out.size, kept_trans HB.out.drew hb3⟩
  · have e0 : foundV l key = .tuple #[.int .i64 (k : Nat), .bool true] := by unfold foundV; rw [hk, ht]
    rw [e0] at HF
    obtain ⟨p, hp, -, hg, hlt⟩ := isB_some ht
    rw [hk] at hp hlt
    obtain ⟨j, hj⟩ : ∃ j : Nat, j = k + 1 := ⟨_, rfl⟩
    have hjw : IntKind.i64.wrap ((k : Int) + 1) = (j : Int) := by rw [IntKind.wrap_i64]; omega
    have e1 : putL l key value = l.take k ++ (⟨key, value, IntKind.i64.wrap (p.n + 1)⟩ :: l.drop j) := by unfold putL fullB putP verP behP; rw [ht, hk, hg, hj]; simp
    have e2 : putE l key = 0 := by unfold putE fullB; rw [ht]; simp
    rw [e1, e2]
    clear e0 e1 e2 hk ht hg
    have HK := hide (show k ≤ l.length by omega)
    have HJ := hide (show j ≤ l.length by omega)
    have HKJ := hide (show k ≤ j by omega)
    have hjl : j ≤ l.length := by omega
    have hjc : j ≤ c := by omega
    clear hj
    obtain ⟨V, hV⟩ : ∃ V, IntKind.i64.wrap (p.n + 1) = V := ⟨_, rfl⟩
    have hpv : ∀ (A : Option Addr) (c : Nat), (if c = j then A else Option.map (fun x => x.add (j * 3)) A) = partV 3 A c j := fun _ _ => rfl
    have HP := hide hp
    clear hp
    rw [hV]
    go_enter Try.func76, Try.ntmps76
    go_upto_region 8 with (go_at_call 100; (with_reducible refine HF.out.mono ?_); rintro e w1 ⟨rfl, hb1⟩; obtain ⟨b, o, rfl, hbs, d0, d1, d2⟩ := (HL.out.below hb1).at_ HP.out)
    go_quiet (fail)
    replace hb1 := kept_drewN hb1 nq
    have HLW := hide ((HL.out.below hb1))
    clear d0 d1 d2 hbs
    generalize w1.drewN nq = wd at hb1 HLW ⊢
    clear HF HL HP
    generalize (some (⟨b, o, none⟩ : Addr)) = A at hA HLW ⊢
    have hkl : k ≤ l.length := by omega
    have hkc : k ≤ c := by omega
    go_upto_region 8 with (fail)
    have R := Row.new wd 47 #[.string key, .string value, .int .i64 V]
    have HB := hide (kept_alloc hb1 (.cells #[.string key, .string value, .int .i64 V] 47))
    have HL2 := HLW.out.alloc (.cells #[.string key, .string value, .int .i64 V] 47)
    clear hb1 HLW
    obtain ⟨c0, c1, c2⟩ := R.three
    clear R
    generalize wd.alloc (.cells #[.string key, .string value, .int .i64 V] 47) = w2 at HB HL2 c0 c1 c2 ⊢
    generalize wd.heap.size = g at c0 c1 c2 ⊢
    have HC : Hid (Calls Try.prog 72 #[.slice (some ⟨w2.heap.size + 1, 0, none⟩) 3 3]
        ((w2.alloc (.cells #[.string key, .string value, .int .i64 V] 47)).alloc (.cells #[.slice A k c, .slice (some ⟨w2.heap.size, 0, none⟩) 1 1, .slice (partV 3 A c j) (l.length - j) (c - j)] 22)).drew
        (MadeP w2.drew (l.take k ++ (⟨key, value, V⟩ :: l.drop j)))) :=
      hide (concat3 (w := w2.drew) (p := ⟨key, value, V⟩) (t := 47) (t' := 22) rfl HL2.drew hA HK.out HJ.out hc ln HKJ.out)
    clear HL2
    go_region_with (go_at_call 72; (with_reducible refine HC.out.mono ?_); rintro e w3 ⟨v3, rfl, ho3, hb3⟩)
    all_goals
      go_wp2
      go_ret2
      exact ⟨_, rfl, ho3.mono HB.out.size, kept_trans HB.out.drew hb3⟩
end Go.Proofs.Ytahfpncfkcfogaa
/- What package kv's Delete comes to. Conditions: the list lies in memory, its length has room. -/
namespace Go.Proofs.Ytahfpncfkcfogaa
open Go.RowKit
set_option maxRecDepth 100000 in
set_option maxHeartbeats 2000000 in
theorem del_any (v : Value) (l : List Pr) (key : ByteArray) (w : World) (h : Pin w v l) (ln : l.length ≤ 3518437208780) :
    Calls Try.prog 77 #[v, .string key] w (Ans w (delP l key) (.bool (isB l key))) := by
  obtain ⟨A, c, rfl, hA, hc, hcc, hl⟩ := h
  have HF := hide (find_any A l.length c l key w rfl hl (by omega))
  have HL := hide hl
  clear hl
  obtain ⟨k, hk⟩ : ∃ k, st l key = k := ⟨_, rfl⟩
  obtain ⟨t, ht⟩ : ∃ t, isB l key = t := ⟨_, rfl⟩
  cases t
  · have e0 : foundV l key = .tuple #[.int .i64 (k : Nat), .bool false] := by unfold foundV; rw [hk, ht]
    rw [e0] at HF
    have e1 : delP l key = l := by unfold delP; rw [ht]; simp
    rw [e1, ht]
    clear e0 e1 hk ht
    have HC := hide (fun (w1 : World) (h1 : Below w.heap.size w w1) => concat1 (t' := 22) rfl (HL.out.below h1) hA ln)
    go_enter Try.func77, Try.ntmps77
    go_wp2_with (first | (go_at_call 100; (with_reducible refine HF.out.mono ?_); rintro e w1 ⟨rfl, hb1⟩; have HB := hide hb1; clear hb1) | (go_at_call 72; (with_reducible refine (HC.out _ HB.out).mono ?_); rintro e w3 ⟨v3, rfl, ho3, hb3⟩))
    go_ret2
    exact ⟨_, rfl, ho3.mono HB.out.size, kept_trans HB.out hb3⟩
  · have e0 : foundV l key = .tuple #[.int .i64 (k : Nat), .bool true] := by unfold foundV; rw [hk, ht]
    rw [e0] at HF
    obtain ⟨p, hp, -, hg, hlt⟩ := isB_some ht
    rw [hk] at hp hlt
    obtain ⟨j, hj⟩ : ∃ j : Nat, j = k + 1 := ⟨_, rfl⟩
    have hjw : IntKind.i64.wrap ((k : Int) + 1) = (j : Int) := by rw [IntKind.wrap_i64]; omega
    have e1 : delP l key = l.take k ++ l.drop j := by unfold delP; rw [ht, hk, hj]; simp
    rw [e1, ht]
    clear e0 e1 hk ht hg hp
    have HK := hide (show k ≤ l.length by omega)
    have HJ := hide (show j ≤ l.length by omega)
    have HKJ := hide (show k ≤ j by omega)
    have hjl : j ≤ l.length := by omega
    have hjc : j ≤ c := by omega
    clear hj
    have hpv : ∀ (A : Option Addr) (c : Nat), (if c = j then A else Option.map (fun x => x.add (j * 3)) A) = partV 3 A c j := fun _ _ => rfl
    go_enter Try.func77, Try.ntmps77
    go_upto_region 4 with (go_at_call 100; (with_reducible refine HF.out.mono ?_); rintro e w1 ⟨rfl, hb1⟩)
    have HC : Hid (Calls Try.prog 72 #[.slice (some ⟨w1.heap.size, 0, none⟩) 2 2]
        ((w1.alloc (.cells #[.slice A k c, .slice (partV 3 A c j) (l.length - j) (c - j)] 22)).drew)
        (MadeP w1.drew (l.take k ++ l.drop j))) :=
      hide (concat2 (w := w1.drew) (t' := 22) rfl (HL.out.below hb1).drew hA HK.out HJ.out hc ln HKJ.out)
    have HB := hide hb1
    clear hb1 HF HL
    go_region_with (go_at_call 72; (with_reducible refine HC.out.mono ?_); rintro e w3 ⟨v3, rfl, ho3, hb3⟩)
    all_goals
      go_wp2
      go_ret2
      exact ⟨_, rfl, ho3.mono HB.out.size, kept_trans HB.out.drew hb3⟩
end Go.Proofs.Ytahfpncfkcfogaa
