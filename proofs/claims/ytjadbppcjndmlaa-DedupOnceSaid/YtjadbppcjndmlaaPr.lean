/- Pairs by rising keys, in plain words: where a key stands, what is put, taken out, listed. No condition: nothing here speaks of a program. -/
import Derived.Test.YtjadbppcjndmlaaEls
import Derived.Test.YtjadbppcjndmlaaOrd
namespace Go.Proofs.Ytjadbppcjndmlaa
open Go.RowKit
/-- A pair. -/
structure Pr where
  k : ByteArray
  v : ByteArray
  n : Int
deriving DecidableEq
/-- Its cells. -/
def Pr.l (p : Pr) : List Value := [.string p.k, .string p.v, .int .i64 p.n]
def zeroP : Pr := ⟨nilT, nilT, 0⟩
def prV (l : List Pr) : List (List Value) := l.map Pr.l
theorem prV_all (l : List Pr) : AllV 3 (prV l) := fun x hx => by
  unfold prV at hx
  obtain ⟨p, _, rfl⟩ := List.mem_map.1 hx
  exact ⟨rfl, fun u hu => by simp [Pr.l] at hu; rcases hu with rfl | rfl | rfl <;> rfl⟩
theorem prV_len (l : List Pr) : (prV l).length = l.length := List.length_map _
theorem prV_append (l m : List Pr) : prV (l ++ m) = prV l ++ prV m := List.map_append
theorem prV_at {l : List Pr} {k : Nat} {p : Pr} (h : l[k]? = some p) : (prV l)[k]? = some p.l := by unfold prV; rw [List.getElem?_map, h]; rfl
/-- From address A on there lie the pairs l. -/
def Prs (w : World) (A : Option Addr) (l : List Pr) : Prop := Els 3 w A (prV l)
section
variable {w w' : World} {A : Option Addr} {l : List Pr}
theorem Prs.nil_ : Prs w A [] := Els.nil_
theorem Prs.none_ (h : Prs w none l) : l = [] := by
  have := Els.none_ h
  unfold prV at this
  exact List.map_eq_nil_iff.1 this
theorem Prs.at_ {k : Nat} {p : Pr} (h : Prs w A l) (hk : l[k]? = some p) : ∃ b off, A = some ⟨b, off, none⟩ ∧ b < w.heap.size ∧ w.cell? ⟨b, off + k * 3, none⟩ = some (.string p.k) ∧ w.cell? ⟨b, off + k * 3 + 1, none⟩ = some (.string p.v) ∧ w.cell? ⟨b, off + k * 3 + 2, none⟩ = some (.int .i64 p.n) := by
  obtain ⟨b, off, e, hb, hc⟩ := Els.at_ h (prV_at hk)
  exact ⟨b, off, e, hb, hc 0 (by omega), hc 1 (by omega), hc 2 (by omega)⟩
theorem Prs.below (h : Prs w A l) (hb : Below w.heap.size w w') : Prs w' A l := Els.below h hb
theorem Prs.alloc (h : Prs w A l) (o : Obj) : Prs (w.alloc o) A l := Els.alloc h o
theorem Prs.drewN (h : Prs w A l) (n : Nat) : Prs (w.drewN n) A l := h
theorem Prs.drew (h : Prs w A l) : Prs w.drew A l := h
theorem Prs.take (h : Prs w A l) (n : Nat) : Prs w A (l.take n) := by
  have := Els.take h n
  unfold Prs prV at *
  rwa [List.map_take]
theorem Prs.rest {c : Nat} (h : Prs w A l) (hc : l.length ≤ c) (i : Nat) : Prs w (partV 3 A c i) (l.drop i) := by
  have := Els.rest h (by rw [prV_len]; exact hc) i
  unfold Prs prV at *
  rwa [List.map_drop]
theorem Prs.grown {row : Option Nat} (h : Prs w A l) (hg : w.grownBy w' row) (hne : ∀ a, A = some a → some a.block ≠ row) : Prs w' A l := Els.grown h hg hne
end
/-! ### What is said of lists -/
/-- May the pair be stored. -/
def mayB (p : Pr) : Bool := !nilB p.k && (decide (p.k.size ≤ 16) && (decide (p.v.size ≤ 64) && decide (1 ≤ p.n)))
/-- Is the pair at j fine, and above the one ahead. -/
def okAt (l : List Pr) (j : Nat) : Bool :=
  match l[j]? with
  | none => false
  | some p => mayB p && (j == 0 || (match l[j - 1]? with
    | none => false
    | some q => ltB q.k p.k))
/-- Is the pair at j above the one ahead. -/
def upAt (l : List Pr) (j : Nat) : Bool := match l[j - 1]?, l[j]? with
  | some q, some p => ltB q.k p.k
  | _, _ => false
def RightL (l : List Pr) : Prop := l.length ≤ 32 ∧ ∀ j, j < l.length → okAt l j = true
noncomputable def rightB (l : List Pr) : Bool := @decide (RightL l) (Classical.propDecidable _)
theorem right_true {l : List Pr} (h : RightL l) : rightB l = true := by unfold rightB; exact @decide_eq_true _ (Classical.propDecidable _) h
theorem right_false {l : List Pr} (h : ¬ RightL l) : rightB l = false := by unfold rightB; exact @decide_eq_false _ (Classical.propDecidable _) h
/-- Do the keys rise. -/
def Rises (l : List Pr) : Prop := ∀ j, 0 < j → j < l.length → upAt l j = true
/-- How many stand ahead of the key: the first whose key is not below it. -/
def st (l : List Pr) (key : ByteArray) : Nat := (l.takeWhile fun p => ltB p.k key).length
/-- Does it stand there. -/
def isB (l : List Pr) (key : ByteArray) : Bool := match l[st l key]? with
  | some p => eqB p.k key
  | none => false
/-- The pair of the key. -/
def getP (l : List Pr) (key : ByteArray) : Pr := if isB l key = true then (l[st l key]?).getD zeroP else zeroP
/-- Is it refused for room. -/
def fullB (l : List Pr) (key : ByteArray) : Bool := !isB l key && decide (32 ≤ l.length)
/-- The version of what is put. -/
def verP (l : List Pr) (key : ByteArray) : Int := if isB l key = true then IntKind.i64.wrap ((getP l key).n + 1) else 1
/-- What is left behind it. -/
def behP (l : List Pr) (key : ByteArray) : Nat := if isB l key = true then st l key + 1 else st l key
def putP (l : List Pr) (key value : ByteArray) : List Pr := l.take (st l key) ++ (⟨key, value, verP l key⟩ :: l.drop (behP l key))
def delP (l : List Pr) (key : ByteArray) : List Pr := if isB l key = true then l.take (st l key) ++ l.drop (st l key + 1) else l
/-- Those that the span has. -/
def inP (l : List Pr) (lo hi : ByteArray) : List Pr := l.filter fun p => hasB lo hi p.k
def rngP (l : List Pr) (lo hi : ByteArray) : List Pr := (inP l lo hi).take 8
def moreB (l : List Pr) (lo hi : ByteArray) : Bool := decide (8 < (inP l lo hi).length)
theorem st_le (l : List Pr) (key : ByteArray) : st l key ≤ l.length := by
  unfold st; exact List.Sublist.length_le (List.takeWhile_sublist _)
theorem takeWhile_at {α : Type} (f : α → Bool) : ∀ (l : List α) (j : Nat), j < (l.takeWhile f).length → ∃ p, l[j]? = some p ∧ f p = true
  | [], j, h => by simp at h
  | x :: r, j, h => by
    rw [List.takeWhile_cons] at h
    by_cases hx : f x = true
    · rw [if_pos hx] at h
      cases j with
      | zero => exact ⟨x, rfl, hx⟩
      | succ j => simpa using takeWhile_at f r j (by simpa using h)
    · rw [if_neg hx] at h; simp at h
theorem takeWhile_is {α : Type} (f : α → Bool) : ∀ (l : List α) (j : Nat), (∀ i, i < j → ∃ p, l[i]? = some p ∧ f p = true) → (∀ p, l[j]? = some p → f p = false) → (l.takeWhile f).length = j
  | [], j, h, _ => by
    cases j with
    | zero => rfl
    | succ j => obtain ⟨p, hp, _⟩ := h 0 (by omega); simp at hp
  | x :: r, j, h, h2 => by
    cases j with
    | zero =>
      have := h2 x rfl
      rw [List.takeWhile_cons, if_neg (by rw [this]; simp)]; rfl
    | succ j =>
      obtain ⟨p, hp, hf⟩ := h 0 (by omega)
      simp at hp; subst hp
      rw [List.takeWhile_cons, if_pos hf, List.length_cons, takeWhile_is f r j (fun i hi => by simpa using h (i + 1) (by omega)) (fun p hp => h2 p (by simpa using hp))]
/-- Ahead of where a key stands all are below it. -/
theorem st_below {l : List Pr} {key : ByteArray} {j : Nat} (h : j < st l key) : ∃ p, l[j]? = some p ∧ ltB p.k key = true := takeWhile_at _ l j h
theorem st_is {l : List Pr} {key : ByteArray} {j : Nat} (h : ∀ i, i < j → ∃ p, l[i]? = some p ∧ ltB p.k key = true) (h2 : ∀ p, l[j]? = some p → ltB p.k key = false) : st l key = j := takeWhile_is _ l j h h2
theorem st_not {l : List Pr} {key : ByteArray} {p : Pr} (h : l[st l key]? = some p) : ltB p.k key = false := by
  unfold st at h
  have : ∀ (l : List Pr) (p : Pr), l[(l.takeWhile fun p => ltB p.k key).length]? = some p → ltB p.k key = false := by
    intro l
    induction l with
    | nil => intro p hp; simp at hp
    | cons x r ih =>
      intro p hp
      rw [List.takeWhile_cons] at hp
      cases hx : ltB x.k key
      · simp [hx] at hp; subst hp; exact hx
      · simp [hx] at hp; exact ih p hp
  exact this l p h
theorem isB_some {l : List Pr} {key : ByteArray} (h : isB l key = true) : ∃ p, l[st l key]? = some p ∧ p.k = key ∧ getP l key = p ∧ st l key < l.length := by
  have h0 := h
  unfold isB at h
  split at h
  · rename_i p hp
    refine ⟨p, hp, (eq_iff _ _).1 h, ?_, ?_⟩
    · unfold getP; rw [if_pos h0, hp]; rfl
    · rcases Nat.lt_or_ge (st l key) l.length with h1 | h1
      · exact h1
      · rw [List.getElem?_eq_none h1] at hp; cases hp
  · cases h
theorem getP_none {l : List Pr} {key : ByteArray} (h : isB l key = false) : getP l key = zeroP := by unfold getP; rw [if_neg (by rw [h]; simp)]
end Go.Proofs.Ytjadbppcjndmlaa
