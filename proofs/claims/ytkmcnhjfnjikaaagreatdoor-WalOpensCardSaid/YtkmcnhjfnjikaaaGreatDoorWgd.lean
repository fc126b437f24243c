/- What is read of a generation whose segments are whole but the last one's end; what Open makes of a disk that has nothing but such a one. No condition: nothing here speaks of a program. -/
import Derived.Test.YtkmcnhjfnjikaaaGreatDoorVnam
import Derived.Test.YtkmcnhjfnjikaaaGreatDoorKtwi
namespace Go.Proofs.YtkmcnhjfnjikaaaGreatDoor
/-- The payloads of segments 1 to K. -/
def cat (F : Nat → List (List Int)) : Nat → List (List Int)
  | 0 => []
  | k + 1 => cat F k ++ F (k + 1)
theorem cat_ne {F : Nat → List (List Int)} (h : F 1 ≠ []) : ∀ {k : Nat}, 1 ≤ k → cat F k ≠ []
  | 1, _ => by simpa [cat] using h
  | k + 2, _ => by
    have := cat_ne h (k := k + 1) (by omega)
    unfold cat
    intro e
    exact this (List.append_eq_nil_iff.1 e).1
theorem enough_num {m n : Nat} (hm : m ≤ 1000000) : enough (num7 (m : Int)) n = decide (m ≤ n) := by
  have h := rd_num7 (m : Int) [] (by omega) (by omega)
  rw [List.append_nil] at h
  have hc : rCntE (num7 (m : Int)) 0 0 maxI = 0 := by
    unfold rCntE cntE maxI
    rw [List.drop_zero, if_pos rfl, if_pos h.2.2, h.1, if_neg (by omega)]
  have hv : rCntV (num7 (m : Int)) 0 0 maxI = m := by unfold rCntV; rw [if_pos hc, List.drop_zero, h.1]
  have ha : rCntA (num7 (m : Int)) 0 0 maxI = (num7 (m : Int)).length := by unfold rCntA; rw [if_pos hc, List.drop_zero, h.2.1]; omega
  have he : rEndE (num7 (m : Int)) (num7 (m : Int)).length 0 = 0 := by unfold rEndE; simp
  unfold enough
  rw [hc, hv, ha, he]
  simp
/-- A generation's segments are there, 1 to K: frames, and behind the last one's r, which begins with none. -/
structure Sg (l : List Fl) (g K : Nat) (F : Nat → List (List Int)) (r : List Int) : Prop where
  k1 : 1 ≤ K
  full : ∀ k, 1 ≤ k → k < K → ∃ x, find (segN g k) l = some x ∧ x.dt = enc (F k)
  last : ∃ x, find (segN g K) l = some x ∧ x.dt = enc (F K) ++ r
  none : find (segN g (K + 1)) l = none
  right : ∀ k, 1 ≤ k → k ≤ K → Right (F k)
  ne : F 1 ≠ []
  fin : nxE r ≠ 0
theorem Sg.rd {l : List Fl} {g K : Nat} {F : Nat → List (List Int)} {r : List Int} (h : Sg l g K F r) : ∀ (j k f : Nat) (a : Gs), K - k = j → 1 ≤ k → k ≤ K → K + 2 ≤ f + k → a.L = cat F (k - 1) →
    rd l g f k a = ⟨cat F K, K, (enc (F K)).length, (enc (F K)).length + r.length⟩
  | j, k, 0, a, hj, h1, h2, hf, ha => by omega
  | 0, k, f + 1, a, hj, h1, h2, hf, ha => by
    obtain rfl : k = K := by omega
    obtain ⟨x, hx, hd⟩ := h.last
    have hfr := frs_enc (h.right k h1 (Nat.le_refl _)) h.fin
    have hm : a.more k x.dt = ⟨cat F k, k, (enc (F k)).length, (enc (F k)).length + r.length⟩ := by
      unfold Gs.more
      rw [hd, hfr.1, hfr.2, ha, List.length_append]
      obtain ⟨i, rfl⟩ : ∃ i, k = i + 1 := ⟨k - 1, by omega⟩
      rfl
    unfold Go.Proofs.YtkmcnhjfnjikaaaGreatDoor.rd
    rw [hx]
    dsimp only
    rw [hm]
    split
    · rfl
    · cases f with
      | zero => omega
      | succ f => unfold Go.Proofs.YtkmcnhjfnjikaaaGreatDoor.rd; rw [h.none]
  | j + 1, k, f + 1, a, hj, h1, h2, hf, ha => by
    obtain ⟨x, hx, hd⟩ := h.full k h1 (by omega)
    have hfr := frs_all (h.right k h1 h2)
    have hm : a.more k x.dt = ⟨cat F k, k, (enc (F k)).length, (enc (F k)).length⟩ := by
      unfold Gs.more
      rw [hd, hfr.1, hfr.2, ha]
      obtain ⟨i, rfl⟩ : ∃ i, k = i + 1 := ⟨k - 1, by omega⟩
      rfl
    have hne := cat_ne h.ne h1
    unfold Go.Proofs.YtkmcnhjfnjikaaaGreatDoor.rd
    rw [hx]
    dsimp only
    rw [hm, if_neg (by unfold Gs.ends; simp [hne])]
    exact h.rd j (k + 1) f _ (by omega) (by omega) (by omega) (by omega) rfl
theorem Sg.le {l : List Fl} {g K : Nat} {F : Nat → List (List Int)} {r : List Int} (h : Sg l g K F r) (hu : Up l) (hg : 1 ≤ g ∧ g < 100) (hK : K < 100) : K ≤ l.length :=
  found_le hg hu hK fun j h1 h2 => by
    rcases Nat.lt_or_ge j K with h3 | h3
    · obtain ⟨x, hx, _⟩ := h.full j h1 h3; rw [hx]; rfl
    · obtain rfl : j = K := by omega
      obtain ⟨x, hx, _⟩ := h.last; rw [hx]; rfl
theorem Sg.gen {l : List Fl} {g K : Nat} {F : Nat → List (List Int)} {r : List Int} (h : Sg l g K F r) (hu : Up l) (hg : 1 ≤ g ∧ g < 100) (hK : K < 100) : gen l g = ⟨cat F K, K, (enc (F K)).length, (enc (F K)).length + r.length⟩ := by
  unfold Go.Proofs.YtkmcnhjfnjikaaaGreatDoor.gen
  have := h.le hu hg hK
  exact h.rd (K - 1) 1 _ _ rfl (Nat.le_refl _) h.k1 (by omega) rfl
theorem whole_none {l : List Fl} {g : Nat} (h : find (segN g 1) l = none) : whole l g = false := by
  unfold whole gen rd
  rw [h]
  rfl
/-- The generation's head asks for no more than is there. -/
structure Hd (F : Nat → List (List Int)) (K : Nat) : Prop where
  head : ∃ (m : Nat) (t : List (List Int)), m ≤ 1000000 ∧ cat F K = num7 (m : Int) :: t ∧ m ≤ t.length
theorem Sg.whole {l : List Fl} {g K : Nat} {F : Nat → List (List Int)} {r : List Int} (h : Sg l g K F r) (hu : Up l) (hg : 1 ≤ g ∧ g < 100) (hK : K < 100) (hh : Hd F K) : whole l g = true := by
  obtain ⟨m, t, hm, he, ht⟩ := hh.head
  unfold Go.Proofs.YtkmcnhjfnjikaaaGreatDoor.whole
  rw [h.gen hu hg hK]
  unfold wholeG
  dsimp only
  rw [he]
  dsimp only
  rw [enough_num hm]
  simp [ht]
/-- Which generation counts. -/
theorem op_best {d : DS} {g : Nat} (hg : 1 ≤ g ∧ g < 100) (hw : whole d.l g = true) (hn : ∀ j, g < j → j ≤ 99 → whole d.l j = false) : opG d = g := best_is (by omega) (fun _ => hw) hn
theorem opZ_of {d : DS} {g : Nat} (h : opG d = g) (h0 : g ≠ 0) : opZ d = gen d.l g := by unfold opZ; rw [h, if_neg h0]
end Go.Proofs.YtkmcnhjfnjikaaaGreatDoor
