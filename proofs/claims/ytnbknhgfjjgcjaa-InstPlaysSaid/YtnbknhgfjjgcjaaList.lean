/- Rising lists of instances: where one stands, put in, taken out; two that have the same are the same. No condition. -/
import Derived.Test.YtnbknhgfjjgcjaaCmp
import Derived.Test.YtnbknhgfjjgcjaaKey
namespace Go.Proofs.Ytnbknhgfjjgcjaa
open Go.RowKit
theorem lt_irrefl (a : Int × Int) : ltP a a = false := by unfold ltP; simp
theorem lt_trans {a b c : Int × Int} (h : ltP a b = true) (k : ltP b c = true) : ltP a c = true := by
  unfold ltP at *; simp at *; omega
theorem lt_asymm {a b : Int × Int} (h : ltP a b = true) : ltP b a = false := by
  unfold ltP at *; simp at *; omega
theorem lt_total {a b : Int × Int} (h : ltP a b = false) (k : ltP b a = false) : a = b := by
  unfold ltP at *; simp at *
  obtain ⟨a1, a2⟩ := a
  obtain ⟨b1, b2⟩ := b
  simp at *
  omega
/-- It rises. -/
def Rise (l : List (Int × Int)) : Prop := l.Pairwise fun a b => ltP a b = true
theorem Rise.nodup {l : List (Int × Int)} (h : Rise l) : l.Nodup := h.imp fun {a b} hab e => by subst e; rw [lt_irrefl] at hab; cases hab
theorem rise_ext {l m : List (Int × Int)} (hl : Rise l) (hm : Rise m) (h : ∀ x, x ∈ l ↔ x ∈ m) : l = m := by
  have hp : l.Perm m := (List.perm_ext_iff_of_nodup hl.nodup hm.nodup).2 h
  exact hp.eq_of_pairwise (le := fun a b => ltP a b = true) (fun a b _ _ h1 h2 => by rw [lt_asymm h1] at h2; cases h2) hl hm
/-- How many of the list stand ahead of i, up to the first that doesn't: i's place. -/
def place (i : Int × Int) : List (Int × Int) → Nat
  | [] => 0
  | x :: r => if ltP x i = true then place i r + 1 else 0
/-- i put in. -/
def ins (i : Int × Int) : List (Int × Int) → List (Int × Int)
  | [] => [i]
  | x :: r => if ltP x i = true then x :: ins i r else if x = i then x :: r else i :: x :: r
/-- i taken out. -/
def del (i : Int × Int) (l : List (Int × Int)) : List (Int × Int) := l.filter fun x => decide (x ≠ i)
theorem place_le (i : Int × Int) : ∀ l : List (Int × Int), place i l ≤ l.length
  | [] => Nat.le_refl _
  | x :: r => by
    unfold place
    split
    · have := place_le i r; simp; omega
    · simp
theorem before_place {i : Int × Int} : ∀ {l : List (Int × Int)} {k : Nat}, k < place i l → ∃ x, l[k]? = some x ∧ ltP x i = true
  | [], k, h => by cases h
  | x :: r, k, h => by
    unfold place at h
    split at h
    · rename_i hx
      rcases k with _ | k
      · exact ⟨x, rfl, hx⟩
      · obtain ⟨y, hy, hl⟩ := before_place (i := i) (l := r) (k := k) (by omega)
        exact ⟨y, by simpa using hy, hl⟩
    · omega
theorem at_place {i : Int × Int} : ∀ {l : List (Int × Int)} {x : Int × Int}, l[place i l]? = some x → ltP x i = false
  | [], x, h => by simp at h
  | y :: r, x, h => by
    unfold place at h
    split at h
    · simp at h; exact at_place h
    · rename_i hx
      simp at h
      subst h
      simpa using hx
/-- The place of one that is first not to stand ahead is i's place. -/
theorem place_of {i : Int × Int} {l : List (Int × Int)} {k : Nat} (h : ∀ j, j < k → ∃ x, l[j]? = some x ∧ ltP x i = true) (h2 : ∀ x, l[k]? = some x → ltP x i = false) : place i l = k := by
  rcases Nat.lt_trichotomy (place i l) k with h1 | h1 | h1
  · obtain ⟨x, e, hx⟩ := h _ h1
    have := at_place e
    rw [hx] at this; cases this
  · exact h1
  · obtain ⟨x, e, hx⟩ := before_place h1
    have := h2 x e
    rw [hx] at this; cases this
theorem ins_there {i : Int × Int} : ∀ {l : List (Int × Int)}, l[place i l]? = some i → ins i l = l
  | [], h => by simp at h
  | x :: r, h => by
    unfold place at h
    unfold ins
    split
    · rename_i hx
      rw [if_pos hx] at h
      simp at h
      rw [ins_there h]
    · rename_i hx
      rw [if_neg hx] at h
      simp at h
      rw [if_pos h]
theorem ins_new {i : Int × Int} : ∀ {l : List (Int × Int)}, l[place i l]? ≠ some i → ins i l = l.take (place i l) ++ i :: l.drop (place i l)
  | [], h => rfl
  | x :: r, h => by
    unfold place at h ⊢
    unfold ins
    split
    · rename_i hx
      rw [if_pos hx] at h
      simp at h
      rw [ins_new h]; rfl
    · rename_i hx
      rw [if_neg hx] at h
      simp at h
      rw [if_neg h]; rfl
theorem mem_ins {i y : Int × Int} : ∀ {l : List (Int × Int)}, y ∈ ins i l ↔ y = i ∨ y ∈ l
  | [] => by simp [ins]
  | x :: r => by
    unfold ins
    split
    · rw [List.mem_cons, mem_ins, List.mem_cons]
      constructor
      · rintro (h | h | h)
        · exact .inr (.inl h)
        · exact .inl h
        · exact .inr (.inr h)
      · rintro (h | h | h)
        · exact .inr (.inl h)
        · exact .inl h
        · exact .inr (.inr h)
    · split
      · rename_i h; subst h; simp
      · simp
theorem rise_ins {i : Int × Int} : ∀ {l : List (Int × Int)}, Rise l → Rise (ins i l)
  | [], _ => List.pairwise_singleton _ _
  | x :: r, h => by
    obtain ⟨h1, h2⟩ := List.pairwise_cons.1 h
    unfold ins
    split
    · rename_i hx
      refine List.pairwise_cons.2 ⟨fun y hy => ?_, rise_ins h2⟩
      rcases mem_ins.1 hy with rfl | hy
      · exact hx
      · exact h1 y hy
    · rename_i hx
      split
      · exact h
      · rename_i hne
        have hix : ltP i x = true := by
          cases hc : ltP i x
          · exact absurd (lt_total (by simpa using hx) hc) hne
          · rfl
        refine List.pairwise_cons.2 ⟨fun y hy => ?_, h⟩
        rcases List.mem_cons.1 hy with rfl | hy
        · exact hix
        · exact lt_trans hix (h1 y hy)
theorem mem_del {i y : Int × Int} {l : List (Int × Int)} : y ∈ del i l ↔ y ∈ l ∧ y ≠ i := by
  unfold del; rw [List.mem_filter]; simp
theorem rise_del {i : Int × Int} {l : List (Int × Int)} (h : Rise l) : Rise (del i l) := h.filter _
/-- In a rising list i stands at its place or nowhere. -/
theorem mem_place {i : Int × Int} : ∀ {l : List (Int × Int)}, Rise l → (l[place i l]? = some i ↔ i ∈ l)
  | [], _ => by simp
  | x :: r, h => by
    obtain ⟨h1, h2⟩ := List.pairwise_cons.1 h
    unfold place
    split
    · rename_i hx
      have hne : i ≠ x := fun e => by subst e; rw [lt_irrefl] at hx; cases hx
      simp [mem_place h2, hne]
    · rename_i hx
      simp
      constructor
      · intro e; exact .inl e.symm
      · rintro (e | e)
        · exact e.symm
        · exact absurd (h1 i e) hx
theorem length_ins {i : Int × Int} {l : List (Int × Int)} (h : Rise l) : (ins i l).length = if i ∈ l then l.length else l.length + 1 := by
  have hp := place_le i l
  split
  · rename_i hi; rw [ins_there ((mem_place h).2 hi)]
  · rename_i hi
    rw [ins_new (fun e => hi ((mem_place h).1 e))]
    simp; omega
theorem length_del {i : Int × Int} {l : List (Int × Int)} (h : Rise l) : (del i l).length + (if i ∈ l then 1 else 0) = l.length := by
  have : ∀ {l : List (Int × Int)}, l.Nodup → (del i l).length + (if i ∈ l then 1 else 0) = l.length := by
    intro l
    induction l with
    | nil => intro _; rfl
    | cons x r ih =>
      intro hn
      obtain ⟨h1, h2⟩ := List.nodup_cons.1 hn
      have := ih h2
      unfold del at this ⊢
      by_cases e : x = i
      · subst e
        rw [if_neg h1] at this
        simp at this ⊢
        omega
      · have e' : ¬ i = x := fun k => e k.symm
        by_cases hi : i ∈ r
        · rw [if_pos hi] at this; simp [e, hi] at this ⊢; omega
        · rw [if_neg hi] at this; simp [e, e', hi] at this ⊢; omega
  exact this h.nodup
end Go.Proofs.Ytnbknhgfjjgcjaa
