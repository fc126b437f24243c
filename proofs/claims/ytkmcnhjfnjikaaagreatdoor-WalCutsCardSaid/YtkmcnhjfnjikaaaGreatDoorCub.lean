/- What Open finds on a disk of which one generation is whole, the last segment maybe torn, and another one maybe begun, or the other one is whole. No condition: nothing here speaks of a program. -/
import Derived.Test.YtkmcnhjfnjikaaaGreatDoorCua
namespace Go.Proofs.YtkmcnhjfnjikaaaGreatDoor
theorem gen_one {l : List Fl} {g : Nat} {x : Fl} (h : find (segN g 1) l = some x) (h2 : find (segN g 2) l = none) : gen l g = Gs.zero.more 1 x.dt := by
  unfold gen
  obtain ⟨f, hf⟩ : ∃ f, l.length + 2 = f + 1 + 1 := ⟨l.length, rfl⟩
  rw [hf]
  unfold rd
  rw [h]
  dsimp only
  split
  · rfl
  · unfold rd
    rw [h2]
theorem seg12 {k : Nat} (hk : 1 ≤ k ∧ k < 100) : segN 1 k ≠ segN 2 1 := fun e => by
  have := segN_inj (g := 1) (g' := 2) (by omega) hk (by omega) (by omega) e
  omega
/-- Files' names are those of generation 1's segments 1 to K, and of generation 2's first one. -/
def Only (l : List Fl) (K : Nat) : Prop := ∀ a, find a l ≠ none → (∃ k, (1 ≤ k ∧ k ≤ K) ∧ a = segN 1 k) ∨ a = segN 2 1
theorem Only.one {l : List Fl} {K : Nat} (h : Only l K) (hK : K < 99) : find (segN 1 (K + 1)) l = none := by
  cases hf : find (segN 1 (K + 1)) l with
  | none => rfl
  | some x =>
    rcases h (segN 1 (K + 1)) (by rw [hf]; simp) with ⟨k, hk, e⟩ | e
    · have := segN_inj (g := 1) (g' := 1) (by omega) (by omega) (by omega) (by omega) e
      omega
    · exact absurd e (seg12 (by omega))
theorem Only.two {l : List Fl} {K : Nat} (h : Only l K) (hK : K < 99) : find (segN 2 2) l = none := by
  cases hf : find (segN 2 2) l with
  | none => rfl
  | some x =>
    rcases h (segN 2 2) (by rw [hf]; simp) with ⟨k, hk, e⟩ | e
    · have := segN_inj (g := 2) (g' := 1) (by omega) (by omega) (by omega) (by omega) e
      omega
    · have := segN_inj (g := 2) (g' := 2) (by omega) (by omega) (by omega) (by omega) e
      omega
theorem Only.far {l : List Fl} {K : Nat} (h : Only l K) (hK : K < 99) {j : Nat} (hj : 3 ≤ j ∧ j ≤ 99) : whole l j = false := by
  apply whole_none
  cases hf : find (segN j 1) l with
  | none => rfl
  | some x =>
    rcases h (segN j 1) (by rw [hf]; simp) with ⟨k, hk, e⟩ | e
    · have := segN_inj (g := j) (g' := 1) (by omega) (by omega) (by omega) (by omega) e
      omega
    · have := segN_inj (g := j) (g' := 2) (by omega) (by omega) (by omega) (by omega) e
      omega
theorem Only.len {l : List Fl} {K : Nat} (h : Only l K) (hu : Up l) (hK : K < 99) : l.length ≤ K + 1 := by
  have h1 := length_delF (segN 2 1) l hu
  have h2 := few_files (G := 1) (by omega) (K := K) (l := delF (segN 2 1) l) (by omega) (up_delF hu) fun a ha => by
    rw [find_delF] at ha
    by_cases e : a = segN 2 1
    · rw [if_pos e] at ha; exact absurd rfl ha
    · rw [if_neg e] at ha
      rcases h a ha with z | z
      · exact z
      · exact absurd z e
  split at h1 <;> omega
theorem Only.sm {l : List Fl} {K : Nat} (h : Only l K) (hu : Up l) (hK : K ≤ 20) : Sm 21 l := ⟨by have := h.len hu (by omega); omega, fun f hf => by
  rcases h f.nm (by rw [find_of_mem hu hf]; simp) with ⟨k, hk, e⟩ | e
  · exact .inl ⟨1, k, by omega, by omega, e⟩
  · exact .inl ⟨2, 1, by omega, by omega, e⟩⟩
theorem Tn.only {l l' : List Fl} {s : ByteArray} {u K : Nat} {c : Prop} {ns : List ByteArray} (h : Tn l l' s u c ns) (ho : Only l K) : Only l' K := fun a ha => by
  rcases h.f a with e | ⟨_, e⟩ | ⟨_, _, x, hx, _⟩
  · exact ho a (by rw [← e]; exact ha)
  · exact absurd e ha
  · exact ho a (by rw [hx]; simp)
/-- Generation 1 is there, its last segment maybe torn; the next one maybe begun, but not whole; all is kept. -/
structure Ku (l : List Fl) (K : Nat) (F : Nat → List (List Int)) (r : List Int) : Prop where
  up : Up l
  kept : Kept l
  only : Only l K
  sg : Sg l 1 K F r
  hd : Hd F K
  two : ∀ x, find (segN 2 1) l = some x → wholeG (Gs.zero.more 1 x.dt) = false
section
variable {d : DS} {K : Nat} {F : Nat → List (List Int)} {r : List Int}
theorem Ku.opG (h : Ku d.l K F r) (hK : K < 99) : opG d = 1 := by
  refine op_best (by omega) (h.sg.whole h.up (by omega) (by omega) h.hd) fun j h1 h2 => ?_
  rcases Nat.lt_or_ge j 3 with h3 | h3
  · obtain rfl : j = 2 := by omega
    cases hf : find (segN 2 1) d.l with
    | none => exact whole_none hf
    | some x =>
      unfold whole
      rw [gen_one hf (h.only.two hK)]
      exact h.two x hf
  · exact h.only.far hK ⟨h3, h2⟩
theorem Ku.opZ (h : Ku d.l K F r) (hK : K < 99) : opZ d = ⟨cat F K, K, (enc (F K)).length, (enc (F K)).length + r.length⟩ := by
  rw [opZ_of (h.opG hK) (by omega), h.sg.gen h.up (by omega) (by omega)]
theorem Ku.opL (h : Ku d.l K F r) (hK : K < 99) : opL d = (cat F K).tail := by unfold Go.Proofs.YtkmcnhjfnjikaaaGreatDoor.opL; rw [h.opZ hK]
theorem Ku.free (h : Ku d.l K F r) (hK : K < 99) (hl : d.left = -1) (ho : d.off = false) : opE d = 0 := by
  have hg := h.opG hK
  have hz := h.opZ hK
  have hk := h.sg.k1
  obtain ⟨x, hx, hd⟩ := h.sg.last
  refine op_free h.up hl ho (by omega) (by rw [hz]; dsimp only; omega) (x := x) (by rw [hg, hz]; exact hx) ?_
  rw [hz, hd, List.length_append]
  dsimp only
  omega
theorem Ku.next (h : Ku d.l K F r) (hK : K < 99) : ∃ r', Ku (opS d).l K F r' := by
  have ht := op_turn h.up h.kept
  rw [h.opG hK, h.opZ hK] at ht
  dsimp only at ht
  have hk := h.sg.k1
  have hne : ∀ k, 1 ≤ k → k ≤ K → segN 1 k ∉ olds d.l 1 K := fun k h1 h2 hm => (mem_olds h.up hm).2 (by rw [segOf_segN (by omega) (by omega)]; exact ⟨rfl, h2⟩)
  have hfull : ∀ k, 1 ≤ k → k < K → find (segN 1 k) (opS d).l = find (segN 1 k) d.l := fun k h1 h2 => by
    rcases ht.f (segN 1 k) with e | ⟨m, _⟩ | ⟨e, _⟩
    · exact e
    · exact absurd m (hne k h1 (by omega))
    · have := segN_inj (g := 1) (g' := 1) (by omega) (by omega) (by omega) (by omega) e
      omega
  have htwo : ∀ x, find (segN 2 1) (opS d).l = some x → wholeG (Gs.zero.more 1 x.dt) = false := fun x hx => by
    rcases ht.f (segN 2 1) with e | ⟨_, e⟩ | ⟨e, _⟩
    · exact h.two x (by rw [← e]; exact hx)
    · rw [e] at hx; cases hx
    · exact absurd e.symm (seg12 (by omega))
  have ho := ht.only h.only
  obtain ⟨x, hx, hxd⟩ := h.sg.last
  have hlast : ∃ r', nxE r' ≠ 0 ∧ ∃ x, find (segN 1 K) (opS d).l = some x ∧ x.dt = enc (F K) ++ r' := by
    rcases ht.f (segN 1 K) with e | ⟨m, _⟩ | ⟨_, _, y, hy, e⟩
    · exact ⟨r, h.sg.fin, x, by rw [e]; exact hx, hxd⟩
    · exact absurd m (hne K hk (Nat.le_refl _))
    · refine ⟨[], nxE_nil, _, e, ?_⟩
      rw [hx] at hy
      injection hy with hy
      dsimp only
      rw [← hy, hxd, List.take_left, List.append_nil]
  obtain ⟨r', hr', hl'⟩ := hlast
  exact ⟨r', ht.up, ht.kept, ho, ⟨hk, fun k h1 h2 => by rw [hfull k h1 h2]; exact h.sg.full k h1 h2, hl', ho.one hK, h.sg.right, h.sg.ne, hr'⟩, h.hd, htwo⟩
end
/-- The next generation is whole; of the old one there are some segments; all is kept. -/
structure Kw (l : List Fl) (K : Nat) (M : List (List Int)) : Prop where
  up : Up l
  kept : Kept l
  only : Only l K
  has : ∃ x, find (segN 2 1) l = some x ∧ x.dt = enc (anF M)
  right : Right (anF M)
  len : M.length ≤ 1000000
section
variable {d : DS} {K : Nat} {M : List (List Int)}
theorem Kw.sg {l : List Fl} (h : Kw l K M) (hK : K < 99) : Sg l 2 1 (fun _ => anF M) [] :=
  ⟨Nat.le_refl _, fun k h1 h2 => by omega, by obtain ⟨x, hx, e⟩ := h.has; exact ⟨x, hx, by rw [e, List.append_nil]⟩, h.only.two hK, fun _ _ _ => h.right, by unfold anF; simp, nxE_nil⟩
theorem Kw.opG (h : Kw d.l K M) (hK : K < 99) : opG d = 2 :=
  op_best (by omega) ((h.sg hK).whole h.up (by omega) (by omega) ⟨M.length, M, h.len, rfl, Nat.le_refl _⟩) fun j h1 h2 => h.only.far hK ⟨h1, h2⟩
theorem Kw.opZ (h : Kw d.l K M) (hK : K < 99) : opZ d = ⟨anF M, 1, (enc (anF M)).length, (enc (anF M)).length⟩ := by
  rw [opZ_of (h.opG hK) (by omega), (h.sg hK).gen h.up (by omega) (by omega)]; rfl
theorem Kw.opL (h : Kw d.l K M) (hK : K < 99) : opL d = M := by unfold Go.Proofs.YtkmcnhjfnjikaaaGreatDoor.opL; rw [h.opZ hK]; rfl
theorem Kw.free (h : Kw d.l K M) (hK : K < 99) (hl : d.left = -1) (ho : d.off = false) : opE d = 0 := by
  have hg := h.opG hK
  have hz := h.opZ hK
  obtain ⟨x, hx, hd⟩ := h.has
  refine op_free h.up hl ho (by omega) (by rw [hz]; dsimp only; omega) (x := x) (by rw [hg, hz]; exact hx) ?_
  rw [hz, hd]
  exact Nat.le_refl _
theorem Kw.next (h : Kw d.l K M) (hK : K < 99) : Kw (opS d).l K M := by
  have ht := op_turn h.up h.kept
  rw [h.opG hK, h.opZ hK] at ht
  dsimp only at ht
  refine ⟨ht.up, ht.kept, ht.only h.only, ?_, h.right, h.len⟩
  rcases ht.f (segN 2 1) with e | ⟨m, _⟩ | ⟨_, c, _⟩
  · rw [e]; exact h.has
  · exact absurd (by rw [segOf_segN (by omega) (by omega)]; exact ⟨rfl, Nat.le_refl _⟩) (mem_olds h.up m).2
  · exact absurd c (Nat.lt_irrefl _)
end
/-- One of the two, and the records that Open finds are such ones. -/
def Pq (R : List (List Int) → Prop) (l : List Fl) : Prop := ∃ K, K ≤ 20 ∧ ((∃ F r, Ku l K F r ∧ R (cat F K).tail) ∨ ∃ M, Kw l K M ∧ R M)
/-- So it is behind any crash. -/
def Iq (R : List (List Int) → Prop) (d : DS) : Prop := ∀ ps, Pq R (craS d ps).l
section
variable {R : List (List Int) → Prop} {d : DS}
theorem Pq.kept (h : Pq R d.l) : Iq R d := fun ps => by
  have : Up d.l ∧ Kept d.l := by
    obtain ⟨K, _, ⟨F, r, hu, _⟩ | ⟨M, hw, _⟩⟩ := h
    · exact ⟨hu.up, hu.kept⟩
    · exact ⟨hw.up, hw.kept⟩
  rw [cra_kept ps this.1 this.2]
  exact h
theorem Pq.next (h : Pq R d.l) : Pq R (opS d).l := by
  obtain ⟨K, hK, ⟨F, r, hu, hr⟩ | ⟨M, hw, hr⟩⟩ := h
  · obtain ⟨r', h'⟩ := hu.next (by omega)
    exact ⟨K, hK, .inl ⟨F, r', h', hr⟩⟩
  · exact ⟨K, hK, .inr ⟨M, hw.next (by omega), hr⟩⟩
theorem Pq.sm {l : List Fl} (h : Pq R l) : Sm 21 l := by
  obtain ⟨K, hK, ⟨F, r, hu, _⟩ | ⟨M, hw, _⟩⟩ := h
  · exact hu.only.sm hu.up hK
  · exact hw.only.sm hw.up hK
theorem Pq.end (h : Pq R d.l) (hl : d.left = -1) (ho : d.off = false) : opE d = 0 ∧ R (opL d) := by
  obtain ⟨K, hK, ⟨F, r, hu, hr⟩ | ⟨M, hw, hr⟩⟩ := h
  · exact ⟨hu.free (by omega) hl ho, by rw [hu.opL (by omega)]; exact hr⟩
  · exact ⟨hw.free (by omega) hl ho, by rw [hw.opL (by omega)]; exact hr⟩
theorem Iq.sm (h : Iq R d) (ps : List Int) : Sm 21 (craS d ps).l := (h ps).sm
theorem Iq.len (h : Iq R d) : d.l.length ≤ 21 := by
  have h1 := (h []).sm.len
  rwa [cra_len] at h1
/-- A crash, the changes counted, an Open. -/
theorem Iq.round (h : Iq R d) (ps : List Int) (n : Int) : Iq R (opS (armS (craS d ps) n)) := (Pq.next (d := armS (craS d ps) n) (h ps)).kept
theorem Iq.open (h : Iq R d) (ps : List Int) : opE (craS d ps) = 0 ∧ R (opL (craS d ps)) := (h ps).end rfl rfl
end
end Go.Proofs.YtkmcnhjfnjikaaaGreatDoor
