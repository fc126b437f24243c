/- The disk's files as a slice: where one goes, comes, turns. No condition: nothing here speaks of a program. -/
import Derived.Test.YtllgjbkmemheoaaPure
namespace Go.Proofs.Ytllgjbkmemheoaa
open Go.RowKit
/-- A file that isn't there, put where the first one stands that isn't below it. -/
theorem putF_at {f : Fl} : ∀ {l : List Fl} {k : Nat}, (∀ j x, j < k → l[j]? = some x → ltB x.nm f.nm = true) → (∀ x, l[k]? = some x → ltB x.nm f.nm = false ∧ x.nm ≠ f.nm) → k ≤ l.length → putF f l = l.take k ++ [f] ++ l.drop k
  | [], k, _, _, hk => by
    obtain rfl : k = 0 := by simpa using hk
    rfl
  | x :: r, 0, _, h, _ => by
    obtain ⟨h1, h2⟩ := h x rfl
    rw [putF_gt r h2 (by simp [h1])]; rfl
  | x :: r, k + 1, h, h2, hk => by
    have h0 := h 0 x (by omega) rfl
    have hne : x.nm ≠ f.nm := fun e => by rw [e, lt_self] at h0; cases h0
    rw [putF_lt r hne h0, putF_at (l := r) (k := k) (fun j y hj hy => h (j + 1) y (by omega) (by simpa using hy)) (fun y hy => h2 y (by simpa using hy)) (by simpa using hk)]
    rfl
/-- A file that is there turns. -/
theorem putF_set {f f' : Fl} (hn : f'.nm = f.nm) : ∀ {l : List Fl} {k : Nat}, Up l → l[k]? = some f → putF f' l = l.set k f'
  | [], k, _, h => by simp at h
  | x :: r, 0, _, h => by
    simp at h; subst h
    rw [putF_same r hn.symm]; rfl
  | x :: r, k + 1, hu, h => by
    have hk : r[k]? = some f := by simpa using h
    have h0 : ltB x.nm f.nm = true := List.rel_of_pairwise_cons hu (List.mem_of_getElem? hk)
    have hne : x.nm ≠ f'.nm := fun e => by rw [e, hn, lt_self] at h0; cases h0
    rw [putF_lt r hne (by rw [hn]; exact h0), putF_set hn (List.Pairwise.of_cons hu) hk]; rfl
/-- A file goes. -/
theorem delF_at {f : Fl} : ∀ {l : List Fl} {k : Nat}, Up l → l[k]? = some f → delF f.nm l = l.take k ++ l.drop (k + 1)
  | [], k, _, h => by simp at h
  | x :: r, 0, hu, h => by
    simp at h; subst h
    have hall : ∀ z, z ∈ r → z.nm ≠ x.nm := fun z hz e => by
      have := List.rel_of_pairwise_cons hu hz
      rw [e, lt_self] at this; cases this
    rw [delF_same r rfl]
    unfold delF
    rw [List.filter_eq_self.2 (fun z hz => by simpa using hall z hz)]; rfl
  | x :: r, k + 1, hu, h => by
    have hk : r[k]? = some f := by simpa using h
    have h0 : ltB x.nm f.nm = true := List.rel_of_pairwise_cons hu (List.mem_of_getElem? hk)
    have hne : x.nm ≠ f.nm := fun e => by rw [e, lt_self] at h0; cases h0
    rw [delF_other r hne, delF_at (List.Pairwise.of_cons hu) hk]; rfl
theorem find_at {f : Fl} {l : List Fl} {k : Nat} (hu : Up l) (h : l[k]? = some f) : find f.nm l = some f := find_of_mem hu (List.mem_of_getElem? h)
/-- A file comes, if it isn't there. -/
def plcL (nm : ByteArray) (l : List Fl) : List Fl := if (find nm l).isSome then l else putF ⟨nm, [], 0⟩ l
theorem plc_up {nm : ByteArray} {l : List Fl} (h : Up l) : Up (plcL nm l) := by unfold plcL; split; exact h; exact up_putF h
theorem plc_find {nm : ByteArray} {l : List Fl} (h : Up l) : find nm (plcL nm l) = some ⟨nm, datO (find nm l), kepO (find nm l)⟩ := by
  unfold plcL
  cases hf : find nm l with
  | none => rw [if_neg (by simp), find_putF _ _ _ h, if_pos rfl]; rfl
  | some f =>
    rw [if_pos (show (some f).isSome = true from rfl), hf]
    obtain ⟨_, rfl⟩ := find_mem hf
    rfl
theorem plc_put {f : Fl} {l : List Fl} : putF f (plcL f.nm l) = putF f l := by
  unfold plcL
  split
  · rfl
  · exact put_put ⟨f.nm, [], 0⟩ f rfl l
theorem plc_len (nm : ByteArray) {l : List Fl} (h : Up l) : (plcL nm l).length ≤ l.length + 1 := by
  unfold plcL
  split
  · omega
  · rw [length_putF _ _ h]; split <;> omega
end Go.Proofs.Ytllgjbkmemheoaa
