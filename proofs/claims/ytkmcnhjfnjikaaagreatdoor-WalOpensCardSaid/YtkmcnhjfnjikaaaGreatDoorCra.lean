/- A crash leaves alone what is kept. No condition: nothing here speaks of a program. -/
import Derived.Test.YtkmcnhjfnjikaaaGreatDoorWk
namespace Go.Proofs.YtkmcnhjfnjikaaaGreatDoor
theorem tear_kept {f : Fl} {p : Int} (h : f.kp = f.dt.length) : tear f p = f := by
  have h1 : (p % ((f.dt.length : Int) - f.kp + 1)).toNat = 0 := by
    rw [h, show (f.dt.length : Int) - (f.dt.length : Int) + 1 = 1 by omega, Int.emod_one]
    rfl
  unfold tear
  rw [h1, Nat.add_zero, h]
  show (⟨f.nm, f.dt.take f.dt.length, f.dt.length⟩ : Fl) = f
  rw [List.take_length, ← h]
theorem tears_kept (ps : List Int) : ∀ (l : List Fl) (k : Nat), (∀ f, f ∈ l → f.kp = f.dt.length) → tears ps k l = l
  | [], _, _ => rfl
  | f :: r, k, h => by
    unfold tears
    rw [tear_kept (h f List.mem_cons_self), tears_kept ps r (k + 1) fun g hg => h g (List.mem_cons_of_mem _ hg)]
theorem Gd.cra {d : DS} {G K : Nat} {F : Nat → List (List Int)} (h : Gd d G K F) (ps : List Int) : craS d ps = d := by
  have ht : tears ps 0 d.l = d.l := tears_kept ps d.l 0 fun f hf => by
    have hff := find_of_mem h.up hf
    obtain ⟨k, hk, e⟩ := h.only f.nm (by rw [hff]; simp)
    have := h.has k hk.1 hk.2
    rw [← e, hff] at this
    injection this with this
    rw [this]
  unfold craS
  rw [ht]
  have h1 := h.left
  have h2 := h.off
  cases d
  simp at h1 h2 ⊢
  exact ⟨h1.symm, h2⟩
end Go.Proofs.YtkmcnhjfnjikaaaGreatDoor
