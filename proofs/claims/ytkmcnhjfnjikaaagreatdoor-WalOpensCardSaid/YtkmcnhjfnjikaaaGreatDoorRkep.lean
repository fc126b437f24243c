/- What holds along any calls of a Wal, without a program: files' names, numbers; which segments are there. No condition. -/
import Derived.Test.YtkmcnhjfnjikaaaGreatDoorRset
import Derived.Test.YtkmcnhjfnjikaaaGreatDoorCua
import Derived.Test.YtkmcnhjfnjikaaaGreatDoorLas
namespace Go.Proofs.YtkmcnhjfnjikaaaGreatDoor
theorem remS_gone {d : DS} {s : ByteArray} (h : remE d s = 0) : find s (remS d s).l = none := by
  unfold remE at h
  unfold remS
  cases ho : d.off with
  | true => rw [ho] at h; simp at h
  | false =>
    rw [ho] at h
    cases hf : find s d.l with
    | none => rw [hf] at h; simp at h
    | some x =>
      rw [hf] at h
      simp at h
      dsimp only
      rw [if_neg (by simp), if_neg h]
      show find s (delF s d.l) = none
      rw [find_delF, if_pos rfl]
theorem remL_gone : ∀ (ns : List ByteArray) (d : DS), (remL ns d).1 = 0 → ∀ a, a ∈ ns → find a (remL ns d).2.l = none
  | [], _, _, a, h => by cases h
  | s :: r, d, h, a, ha => by
    rw [remL_cons] at h ⊢
    by_cases he : remE d s = 0
    · rw [if_pos he] at h ⊢
      by_cases hr : a ∈ r
      · exact remL_gone r _ h a hr
      · rcases List.mem_cons.1 ha with rfl | hr2
        · rcases (remL_find a r (remS d a)).2 with e | ⟨_, e⟩
          · rw [e]; exact remS_gone he
          · exact e
        · exact absurd hr2 hr
    · rw [if_neg he] at h
      exact absurd h he
theorem some_cut {d : DS} (hu : Up d.l) (s : ByteArray) (n : Nat) (a : ByteArray) : (find a (cutS d s n).l).isSome = (find a d.l).isSome := by
  rcases (cutS_find hu s n).2 a with e | ⟨_, x, hx, e⟩
  · rw [e]
  · rw [e, hx]; rfl
theorem some_syn {d : DS} (hu : Up d.l) (s : ByteArray) (a : ByteArray) : (find a (synS d s).l).isSome = (find a d.l).isSome := by
  rcases (synS_find hu s).2 a with e | ⟨_, x, hx, e⟩
  · rw [e]
  · rw [e, hx]; rfl
theorem up_op1 {d : DS} (hu : Up d.l) : Up (op1S d).l ∧ ∀ a, (find a (op1S d).l).isSome = (find a d.l).isSome := by
  unfold op1S
  split
  · exact ⟨(cutS_find hu _ _).1, some_cut hu _ _⟩
  · exact ⟨hu, fun _ => rfl⟩
theorem up_op {d : DS} (hu : Up d.l) : Up (opS d).l ∧ (∀ a, a ∉ olds d.l (opG d) (opZ d).k → (find a (opS d).l).isSome = (find a d.l).isSome) ∧ ∀ a, find a d.l = none → find a (opS d).l = none := by
  have h1 := up_op1 hu
  have h2 : Up (op2 d).2.l := (remL_find (segN 1 1) (olds d.l (opG d) (opZ d).k) (op1S d)).1 h1.1
  have h3 : ∀ a, a ∉ olds d.l (opG d) (opZ d).k → (find a (op2 d).2.l).isSome = (find a d.l).isSome := fun a ha => by
    rcases (remL_find a (olds d.l (opG d) (opZ d).k) (op1S d)).2 with e | ⟨m, _⟩
    · rw [show (op2 d).2 = (remL (olds d.l (opG d) (opZ d).k) (op1S d)).2 from rfl, e, h1.2]
    · exact absurd m ha
  have h4 : ∀ a, find a d.l = none → find a (op2 d).2.l = none := fun a ha => by
    rcases (remL_find a (olds d.l (opG d) (opZ d).k) (op1S d)).2 with e | ⟨_, e⟩
    · rw [show (op2 d).2 = (remL (olds d.l (opG d) (opZ d).k) (op1S d)).2 from rfl, e]
      have := h1.2 a
      rw [ha] at this
      cases hx : find a (op1S d).l with
      | none => rfl
      | some y => rw [hx] at this; cases this
    · exact e
  have toN : ∀ (l : List Fl) a, (find a l).isSome = false → find a l = none := fun l a h => by
    cases hx : find a l with
    | none => rfl
    | some y => rw [hx] at h; cases h
  unfold opS
  split
  · exact ⟨h1.1, fun a _ => h1.2 a, fun a ha => toN _ _ (by rw [h1.2, ha]; rfl)⟩
  · split
    · exact ⟨h2, h3, h4⟩
    · split
      · exact ⟨h2, h3, h4⟩
      · refine ⟨(synS_find h2 _).1, fun a ha => (some_syn h2 _ a).trans (h3 a ha), fun a ha => toN _ _ ?_⟩
        rw [some_syn h2, h4 a ha]; rfl
theorem op_zero {d : DS} (h : opE d = 0) : op1E d = 0 ∧ (op2 d).1 = 0 ∧ (opG d = 0 → opS d = (op2 d).2) ∧ (opG d ≠ 0 → opS d = synS (op2 d).2 (segN (opG d) (opZ d).k) ∧ synE (op2 d).2 (segN (opG d) (opZ d).k) = 0) := by
  by_cases h1 : op1E d = 0
  · by_cases h2 : (op2 d).1 = 0
    · have e : op2 d = (0, (op2 d).2) := by rw [← h2]
      refine ⟨h1, h2, fun hG => (op_e3 h1 e hG).2, fun hG => ⟨(op_e4 h1 e hG).2, ?_⟩⟩
      rw [← (op_e4 h1 e hG).1]; exact h
    · have := (op_e2 h1 (show op2 d = ((op2 d).1, (op2 d).2) from rfl) h2).1
      rw [h] at this
      exact absurd this.symm h2
  · have := (op_e1 h1).1
    rw [h] at this
    exact absurd this.symm h1
theorem op_gone {d : DS} (hu : Up d.l) (h : opE d = 0) {a : ByteArray} (ha : a ∈ olds d.l (opG d) (opZ d).k) : find a (opS d).l = none := by
  obtain ⟨_, h2, h3, h4⟩ := op_zero h
  have hg : find a (op2 d).2.l = none := remL_gone _ _ h2 a ha
  have hu2 : Up (op2 d).2.l := (remL_find (segN 1 1) (olds d.l (opG d) (opZ d).k) (op1S d)).1 (up_op1 hu).1
  by_cases hG : opG d = 0
  · rw [h3 hG]; exact hg
  · rw [(h4 hG).1]
    have := some_syn hu2 (segN (opG d) (opZ d).k) a
    rw [hg] at this
    cases hx : find a (synS (op2 d).2 (segN (opG d) (opZ d).k)).l with
    | none => rfl
    | some y => rw [hx] at this; cases this
theorem rd_has (l : List Fl) (g : Nat) : ∀ f k (s : Gs), (∀ j, 1 ≤ j → j ≤ s.k → (find (segN g j) l).isSome = true) → s.k + 1 = k → ∀ j, 1 ≤ j → j ≤ (rd l g f k s).k → (find (segN g j) l).isSome = true
  | 0, _, _, h, _, j, h1, h2 => h j h1 h2
  | f + 1, k, s, h, hk, j, h1, h2 => by
    unfold rd at h2
    cases hf : find (segN g k) l with
    | none => rw [hf] at h2; exact h j h1 h2
    | some x =>
      rw [hf] at h2
      dsimp only at h2
      have h3 : ∀ j, 1 ≤ j → j ≤ (s.more k x.dt).k → (find (segN g j) l).isSome = true := fun j a b => by
        have b : j ≤ k := b
        rcases Nat.lt_or_ge j k with c | c
        · exact h j a (by omega)
        · obtain rfl : j = k := by omega
          rw [hf]; rfl
      split at h2
      · exact h3 j h1 h2
      · exact rd_has l g f (k + 1) _ h3 rfl j h1 h2
theorem op_has {d : DS} (j : Nat) (h1 : 1 ≤ j) (h2 : j ≤ (opZ d).k) : (find (segN (opG d) j) d.l).isSome = true := by
  by_cases hG : opG d = 0
  · have : opZ d = Gs.zero := by unfold opZ; rw [if_pos hG]
    rw [this] at h2
    have : j ≤ 0 := h2
    omega
  · rw [opZ_of rfl hG] at h2
    exact rd_has d.l (opG d) _ 1 Gs.zero (fun j a b => by have : j ≤ 0 := b; omega) rfl j h1 h2
theorem not_old {l : List Fl} {G K k : Nat} (hu : Up l) (hG : 1 ≤ G ∧ G < 100) (hk : 1 ≤ k ∧ k < 100) (hK : k ≤ K) : segN G k ∉ olds l G K := fun h => (mem_olds hu h).2 (by rw [segOf_segN hG hk]; exact ⟨rfl, hK⟩)
/-- What holds of a disk and its Wal. -/
structure Pi (m : Nat) (d : DS) (x : WS) : Prop where
  sm : Sm m d.l
  up : Up d.l
  G : x.G ≤ m
  K : x.K ≤ m
  pos : x.G ≠ 0 → 1 ≤ x.K
  zero : x.G = 0 → x.K = 0
  only : x.bad = false → ∀ a, find a d.l ≠ none → (segOf a).1 ≠ 0 → (segOf a).1 = x.G ∧ (segOf a).2 ≤ x.K
  has : x.bad = false → ∀ k, 1 ≤ k → k ≤ x.K → (find (segN x.G k) d.l).isSome = true
theorem Sm.of_find {m m' : Nat} {l l' : List Fl} (h : Sm m l) (hu : Up l') (hm : m ≤ m') (hl : l'.length ≤ m') (hf : ∀ a, find a l' ≠ none → find a l ≠ none ∨ ∃ g k, (1 ≤ g ∧ g ≤ m') ∧ (1 ≤ k ∧ k ≤ m') ∧ a = segN g k) : Sm m' l' := ⟨hl, fun f hff => by
  rcases hf f.nm (by rw [find_of_mem hu hff]; simp) with h1 | h1
  · cases hx : find f.nm l with
    | none => exact absurd hx h1
    | some y =>
      have hy := find_mem hx
      rcases h.nm y hy.1 with ⟨g, k, hg, hk, e⟩ | e
      · exact .inl ⟨g, k, by omega, by omega, by rw [← hy.2]; exact e⟩
      · exact .inr (by rw [← hy.2]; exact e)
  · exact .inl h1⟩
/-- A sorted list whose names are all in another one is no longer. -/
theorem len_sub : ∀ {l' l : List Fl}, Up l' → Up l → (∀ a, find a l' ≠ none → find a l ≠ none) → l'.length ≤ l.length
  | [], _, _, _, _ => Nat.zero_le _
  | f :: r, l, h', h, hf => by
    have h1 : find f.nm l ≠ none := hf f.nm (by unfold find; rw [if_pos rfl]; simp)
    have h2 := len_sub (l' := r) (l := delF f.nm l) (List.Pairwise.of_cons h') (up_delF h) fun a ha => by
      cases hx : find a r with
      | none => exact absurd hx ha
      | some y =>
        have hy := find_mem hx
        have hlt := List.rel_of_pairwise_cons h' hy.1
        have hne : a ≠ f.nm := fun e => by rw [hy.2, e, lt_self] at hlt; cases hlt
        rw [find_delF, if_neg hne]
        refine hf a ?_
        unfold find
        rw [if_neg (fun e => hne e.symm), hx]
        simp
    have h3 := length_delF f.nm l h
    have h4 : (find f.nm l).isSome = true := by
      cases hx : find f.nm l with
      | none => exact absurd hx h1
      | some y => rfl
    rw [if_pos h4] at h3
    have h5 : 1 ≤ l.length := by
      cases hx : find f.nm l with
      | none => rw [hx] at h4; cases h4
      | some y => exact List.length_pos_of_mem (find_mem hx).1
    rw [List.length_cons]
    omega
theorem Sm.sub {m : Nat} {l l' : List Fl} (h : Sm m l) (hu : Up l) (hu' : Up l') (hf : ∀ a, find a l = none → find a l' = none) : Sm m l' :=
  h.of_find hu' (Nat.le_refl _) (Nat.le_trans (len_sub hu' hu fun a ha hn => ha (hf a hn)) h.len) fun a ha => .inl fun hn => ha (hf a hn)
theorem Sm.more {m : Nat} {l l' : List Fl} {nm : ByteArray} {g k : Nat} (h : Sm m l) (hu : Up l) (hu' : Up l') (hf : ∀ a, a ≠ nm → find a l = none → find a l' = none) (hg : 1 ≤ g ∧ g ≤ m + 1) (hk : 1 ≤ k ∧ k ≤ m + 1) (he : nm = segN g k) : Sm (m + 1) l' := by
  have hl : l'.length ≤ m + 1 := by
    have h2 := len_sub (l' := delF nm l') (l := l) (up_delF hu') hu fun a ha hn => ha (by
      rw [find_delF]
      by_cases e : a = nm
      · rw [if_pos e]
      · rw [if_neg e]; exact hf a e hn)
    have h3 := length_delF nm l' hu'
    have := h.len
    split at h3 <;> omega
  refine h.of_find hu' (by omega) hl fun a ha => ?_
  by_cases e : a = nm
  · exact .inr ⟨g, k, hg, hk, by rw [e, he]⟩
  · exact .inl fun hn => ha (hf a e hn)
theorem Pi.open {m : Nat} {d : DS} (hs : Sm m d.l) (hu : Up d.l) (hm : m ≤ 60) (hE : opE d = 0) : Pi m (opS d) ⟨opG d, (opZ d).k, false⟩ := by
  have hop := up_op hu
  have hG99 := opG_le d
  have hK := opZ_k d
  have hsl := hs.len
  have hsm : Sm m (opS d).l := hs.sub hu hop.1 hop.2.2
  have hpos : opG d ≠ 0 → 1 ≤ (opZ d).k := opZ_k1
  have hzero : opG d = 0 → (opZ d).k = 0 := fun h => by
    have : opZ d = Gs.zero := by unfold opZ; rw [if_pos h]
    rw [this]; rfl
  have hkl : (opZ d).k ≤ d.l.length := by
    by_cases h0 : opG d = 0
    · rw [hzero h0]; exact Nat.zero_le _
    · exact found_le (by omega) hu (by omega) fun j h1 h2 => op_has j h1 h2
  refine ⟨hsm, hop.1, ?_, by show (opZ d).k ≤ m; omega, hpos, hzero, fun _ a ha h0 => ?_, fun _ k h1 h2 => ?_⟩
  · show opG d ≤ m
    by_cases h0 : opG d = 0
    · omega
    · have h1 := op_has (d := d) 1 (Nat.le_refl _) (hpos h0)
      cases hx : find (segN (opG d) 1) d.l with
      | none => rw [hx] at h1; cases h1
      | some y =>
        have hy := find_mem hx
        rcases hs.nm y hy.1 with ⟨g, k, hg, hk, e⟩ | e
        · rw [hy.2] at e
          have := segN_inj (by omega) (by omega) (by omega) (by omega) e
          omega
        · rw [hy.2, segOf_segN (by omega) (by omega)] at e
          injection e with e
          omega
  · apply Classical.byContradiction
    intro hc
    have hmem : a ∈ olds d.l (opG d) (opZ d).k := by
      have hd : find a d.l ≠ none := fun hn => ha (hop.2.2 a hn)
      cases hx : find a d.l with
      | none => exact absurd hx hd
      | some y =>
        have hy := find_mem hx
        rw [olds_is]
        refine List.mem_filter.2 ⟨List.mem_map.2 ⟨y, hy.1, hy.2⟩, ?_⟩
        unfold oldB
        rw [decide_eq_true h0, Bool.true_and]
        by_cases h3 : (segOf a).1 = opG d
        · by_cases h4 : (segOf a).2 ≤ (opZ d).k
          · exact absurd ⟨h3, h4⟩ hc
          · rw [decide_eq_false h4, Bool.and_false]; rfl
        · rw [decide_eq_false h3]; rfl
    exact ha (op_gone hu hE hmem)
  · have h2 : k ≤ (opZ d).k := h2
    have h0 : opG d ≠ 0 := fun h => by rw [hzero h] at h2; omega
    rw [hop.2.1 _ (not_old hu (by omega) (by omega) h2)]
    exact op_has k h1 h2
theorem wr_find {d : DS} (hu : Up d.l) (nm : ByteArray) (b : List Int) : Up (wrS d nm b).l ∧ (∀ a, a ≠ nm → (find a (wrS d nm b).l).isSome = (find a d.l).isSome) ∧ (wrE d nm b = 0 → (find nm (wrS d nm b).l).isSome = true) ∧ (wrE d nm b ≠ 0 → wrB d nm b = false → wrS d nm b = d) := by
  have happ : Up (appS d nm b).l ∧ (∀ a, a ≠ nm → find a (appS d nm b).l = find a d.l) ∧ (appE d nm b = 7 → appS d nm b = d) := by
    refine ⟨up_app hu nm b, fun a ha => ?_, fun h => ?_⟩
    · unfold appS
      split
      · rfl
      · split
        · rfl
        · split
          · rfl
          · split
            · rw [spent_l]
            · show find a (putF _ d.l) = _
              rw [find_putF _ _ _ hu, if_neg ha]
    · unfold appE at h
      unfold appS
      split
      · rfl
      · rename_i h1
        rw [if_neg h1] at h
        split
        · rfl
        · rename_i h2
          rw [if_neg h2] at h
          split
          · rfl
          · rename_i h3
            rw [if_neg h3] at h
            split at h <;> cases h
  have hs := fun a => some_syn happ.1 nm a
  unfold wrS wrE wrB
  by_cases h0 : appE d nm b = 0
  · simp only [h0]
    rw [if_neg (by decide)]
    refine ⟨(synS_find happ.1 nm).1, fun a ha => by rw [hs, happ.2.1 a ha], fun h => ?_, fun h1 h2 => ?_⟩
    · rw [if_neg (by decide)] at h
      rw [hs]
      unfold synE at h
      split at h
      · cases h
      · split at h
        · cases h
        · rename_i h9
          cases hx : find nm (appS d nm b).l with
          | none => rw [hx] at h9; exact absurd rfl h9
          | some y => rfl
    · rw [if_neg (by decide)] at h1
      unfold wrE at h2
      rw [h0, if_neg (by decide)] at h2
      simp at h2
      exact absurd h2 h1
  · rw [if_pos h0, if_pos h0]
    refine ⟨happ.1, fun a ha => by rw [happ.2.1 a ha], fun h => absurd h h0, fun h1 h2 => happ.2.2 ?_⟩
    unfold wrE at h2
    rw [if_pos h0] at h2
    simp at h2
    exact h2 h0
section
variable {m : Nat} {d : DS} {x : WS} {F : List (List Int)}
theorem Pi.wider (h : Pi m d x) : Pi (m + 1) d x := ⟨⟨by have := h.sm.len; omega, fun f hf => by
  rcases h.sm.nm f hf with ⟨g, k, hg, hk, e⟩ | e
  · exact .inl ⟨g, k, by omega, by omega, e⟩
  · exact .inr e⟩, h.up, by have := h.G; omega, by have := h.K; omega, h.pos, h.zero, h.only, h.has⟩
theorem Pi.arm (h : Pi m d x) (n : Int) : Pi m (armS d n) x := ⟨h.sm, h.up, h.G, h.K, h.pos, h.zero, h.only, h.has⟩
theorem toNone {l : List Fl} {a : ByteArray} (h : (find a l).isSome = false) : find a l = none := by
  cases hx : find a l with
  | none => rfl
  | some y => rw [hx] at h; cases h
theorem Pi.add (h : Pi m d x) (hm : m ≤ 50) : Pi (m + 1) (adS d x F) (adW d x F) := by
  have hG := h.G
  have hK := h.K
  by_cases hR : adR x F = 0
  · by_cases hF : F = []
    · obtain ⟨_, e2, e3⟩ := adE_none (d := d) hR hF
      rw [e2, e3]; exact h.wider
    · obtain ⟨_, e2, e3⟩ := adE_some (d := d) hR hF
      have hb : x.bad = false := by
        unfold adR at hR
        cases hx : x.bad with
        | false => rfl
        | true => rw [hx] at hR; simp at hR
      have hG0 : x.G ≠ 0 := fun h0 => by unfold adR at hR; rw [hb, if_neg (by simp), if_pos h0] at hR; cases hR
      have hp := h.pos hG0
      have hkl := nextK_le d x
      have hkg : x.K ≤ nextK d x := by unfold nextK; split <;> omega
      obtain ⟨w1, w2, w3, w4⟩ := wr_find h.up (segN x.G (nextK d x)) (enc F)
      rw [e2, e3]
      by_cases hw : wrE d (segN x.G (nextK d x)) (enc F) = 0
      · rw [if_pos hw]
        have hs : Sm (m + 1) (wrS d (segN x.G (nextK d x)) (enc F)).l := h.sm.more h.up w1 (fun a ha hn => toNone (by rw [w2 a ha, hn]; rfl)) (g := x.G) (k := nextK d x) (by omega) (by omega) rfl
        refine ⟨hs, w1, by show x.G ≤ _; omega, by show nextK d x ≤ _; omega, fun _ => by show 1 ≤ nextK d x; omega, fun h0 => absurd h0 hG0, fun _ a ha h0 => ?_, fun _ k h1 h2 => ?_⟩
        · by_cases e : a = segN x.G (nextK d x)
          · rw [e, segOf_segN (by omega) (by omega)]; exact ⟨rfl, Nat.le_refl _⟩
          · have hd : find a d.l ≠ none := fun hn => ha (toNone (by rw [w2 a e, hn]; rfl))
            have := h.only hb a hd h0
            exact ⟨this.1, by show (segOf a).2 ≤ nextK d x; omega⟩
        · have h2 : k ≤ nextK d x := h2
          show (find (segN x.G k) _).isSome = true
          by_cases e : k = nextK d x
          · rw [e]; exact w3 hw
          · rw [w2 _ (fun e2 => e (segN_inj (by omega) (by omega) (by omega) (by omega) e2).2)]
            exact h.has hb k h1 (by omega)
      · rw [if_neg hw]
        have hs : Sm (m + 1) (wrS d (segN x.G (nextK d x)) (enc F)).l := h.sm.more h.up w1 (fun a ha hn => toNone (by rw [w2 a ha, hn]; rfl)) (g := x.G) (k := nextK d x) (by omega) (by omega) rfl
        refine ⟨hs, w1, by show x.G ≤ _; omega, by show x.K ≤ _; omega, h.pos, h.zero, fun hbb => ?_, fun hbb => ?_⟩
        · rw [w4 hw hbb]; exact h.only hb
        · rw [w4 hw hbb]; exact h.has hb
  · obtain ⟨_, e2, e3⟩ := adE_refused (d := d) hR
    rw [e2, e3]; exact h.wider
/-- The old generation's segments are just those. -/
theorem Pi.old (h : Pi m d x) (hm : m ≤ 50) (hb : x.bad = false) : anO d x F = oldN x.G x.K := by
  have hG := h.G
  have hK := h.K
  unfold anO
  by_cases h0 : x.G = 0
  · rw [if_pos h0, h.zero h0]; rfl
  · rw [if_neg h0]
    obtain ⟨w1, w2, _, _⟩ := wr_find h.up (segN (x.G + 1) 1) (anB F)
    have hne : ∀ k, 1 ≤ k → k < 100 → segN x.G k ≠ segN (x.G + 1) 1 := fun k h1 h2 e => by
      have := segN_inj (by omega) (by omega) (by omega) (by omega) e
      omega
    have hlen : x.K ≤ d.l.length := found_le (g := x.G) (by omega) h.up (by omega) fun j h1 h2 => h.has hb j h1 h2
    have := dropL_eq (l := (wrS d (segN (x.G + 1) 1) (anB F)).l) (g := x.G) (K := x.K) (fun k h1 h2 => by rw [w2 _ (hne k h1 (by omega))]; exact h.has hb k h1 h2) (toNone (by
      rw [w2 _ (hne (x.K + 1) (by omega) (by omega))]
      cases hx : find (segN x.G (x.K + 1)) d.l with
      | none => rfl
      | some y =>
        have h9 := h.only hb (segN x.G (x.K + 1)) (by rw [hx]; simp) (by rw [segOf_segN (by omega) (by omega)]; exact h0)
        rw [segOf_segN (by omega) (by omega)] at h9
        have := h9.2
        dsimp only at this
        omega)) x.K 1 (d.l.length + 2) (by omega) (by omega) (by omega) (by omega)
    rw [this]; rfl
theorem Pi.anew (h : Pi m d x) (hm : m ≤ 50) : Pi (m + 1) (anS d x F) (anW d x F) := by
  have hG := h.G
  have hK := h.K
  by_cases hR : anR x F = 0
  · have hb : x.bad = false := by
      unfold anR at hR
      cases hx : x.bad with
      | false => rfl
      | true => rw [hx] at hR; simp at hR
    obtain ⟨w1, w2, w3, w4⟩ := wr_find h.up (segN (x.G + 1) 1) (anB F)
    have hs : Sm (m + 1) (wrS d (segN (x.G + 1) 1) (anB F)).l := h.sm.more h.up w1 (fun a ha hn => toNone (by rw [w2 a ha, hn]; rfl)) (g := x.G + 1) (k := 1) (by omega) (by omega) rfl
    by_cases hw : wrE d (segN (x.G + 1) 1) (anB F) = 0
    · obtain ⟨_, e2, e3⟩ := anE_ok (d := d) hR hw
      have hD : anD d x F = remL (oldN x.G x.K) (wrS d (segN (x.G + 1) 1) (anB F)) := by unfold anD; rw [h.old hm hb]
      rw [e2, e3, hD]
      have hrl := fun a => remL_find a (oldN x.G x.K) (wrS d (segN (x.G + 1) 1) (anB F))
      have hu2 := (hrl (segN 1 1)).1 w1
      have hs2 : Sm (m + 1) (remL (oldN x.G x.K) (wrS d (segN (x.G + 1) 1) (anB F))).2.l := hs.sub w1 hu2 fun a hn => by
        rcases (hrl a).2 with e | ⟨_, e⟩
        · rw [e]; exact hn
        · exact e
      by_cases h9 : (remL (oldN x.G x.K) (wrS d (segN (x.G + 1) 1) (anB F))).1 = 0
      · rw [if_neg (fun h => h h9)]
        have hgone := remL_gone (oldN x.G x.K) (wrS d (segN (x.G + 1) 1) (anB F)) h9
        refine ⟨hs2, hu2, by show x.G + 1 ≤ _; omega, by show 1 ≤ _; omega, fun _ => Nat.le_refl _, fun h0 => by have : x.G + 1 = 0 := h0; omega, fun _ a ha h0 => ?_, fun _ k h1 h2 => ?_⟩
        · have ha1 : find a (wrS d (segN (x.G + 1) 1) (anB F)).l ≠ none := fun hn => by
            rcases (hrl a).2 with e | ⟨_, e⟩
            · exact ha (e.trans hn)
            · exact ha e
          by_cases e : a = segN (x.G + 1) 1
          · rw [e, segOf_segN (by omega) (by omega)]; exact ⟨rfl, Nat.le_refl _⟩
          · exfalso
            have hd : find a d.l ≠ none := fun hn => ha1 (toNone (by rw [w2 a e, hn]; rfl))
            have h5 := h.only hb a hd h0
            cases hx : find a d.l with
            | none => exact hd hx
            | some y =>
              have hy := find_mem hx
              rcases h.sm.nm y hy.1 with ⟨g, k, hg, hk, e6⟩ | e6
              · rw [hy.2] at e6
                rw [e6, segOf_segN (by omega) (by omega)] at h5
                have h5 : g = x.G ∧ k ≤ x.K := h5
                refine ha (hgone a ?_)
                unfold oldN
                exact List.mem_map.2 ⟨k - 1, List.mem_range.2 (by omega), by rw [e6, h5.1, show 1 + (k - 1) = k by omega]⟩
              · rw [hy.2] at e6
                rw [e6] at h0
                exact h0 rfl
        · have h2 : k ≤ 1 := h2
          obtain rfl : k = 1 := by omega
          show (find (segN (x.G + 1) 1) _).isSome = true
          rcases (hrl (segN (x.G + 1) 1)).2 with e | ⟨mm, _⟩
          · rw [e]; exact w3 hw
          · exfalso
            unfold oldN at mm
            obtain ⟨i, hi, e⟩ := List.mem_map.1 mm
            have hi := List.mem_range.1 hi
            have hz : x.G ≠ 0 := fun h0 => by have := h.zero h0; omega
            have := segN_inj (by omega) (by omega) (by omega) (by omega) e
            omega
      · rw [if_pos h9]
        exact ⟨hs2, hu2, by show x.G ≤ _; omega, by show x.K ≤ _; omega, h.pos, h.zero, fun hbb => (by cases hbb), fun hbb => (by cases hbb)⟩
    · obtain ⟨_, e2, e3⟩ := anE_err (d := d) hR hw
      rw [e2, e3]
      refine ⟨hs, w1, by show x.G ≤ _; omega, by show x.K ≤ _; omega, h.pos, h.zero, fun hbb => ?_, fun hbb => ?_⟩
      · rw [w4 hw hbb]; exact h.only hb
      · rw [w4 hw hbb]; exact h.has hb
  · obtain ⟨_, e2, e3⟩ := anE_refused (d := d) hR
    rw [e2, e3]; exact h.wider
end
theorem Sm.wider {m m' : Nat} {l : List Fl} (h : Sm m l) (hm : m ≤ m') : Sm m' l := ⟨by have := h.len; omega, fun f hf => by
  rcases h.nm f hf with ⟨g, k, hg, hk, e⟩ | e
  · exact .inl ⟨g, k, by omega, by omega, e⟩
  · exact .inr e⟩
theorem Sm.cra {m : Nat} {d : DS} (h : Sm m d.l) (ps : List Int) : Sm m (craS d ps).l := ⟨by rw [cra_len]; exact h.len, fun f hf => by
  have h1 : f.nm ∈ ((craS d ps).l).map (·.nm) := List.mem_map.2 ⟨f, hf, rfl⟩
  rw [show ((craS d ps).l).map (·.nm) = d.l.map (·.nm) from tears_nms ps 0 d.l] at h1
  obtain ⟨y, hy, e⟩ := List.mem_map.1 h1
  have e : y.nm = f.nm := e
  rw [← e]
  exact h.nm y hy⟩
end Go.Proofs.YtkmcnhjfnjikaaaGreatDoor
/- What law 10's light and alike come to. Conditions: what came in lies in memory; both disks lie as they must and are the same. -/
namespace Go.Proofs.YtkmcnhjfnjikaaaGreatDoor
open Go.RowKit Go.Maps
/-- The weight of the first j records. -/
def smL (it : Nat → Sb) : Nat → Nat
  | 0 => 0
  | j + 1 => smL it j + ((it j).zs.length + 1)
theorem smL_le (it : Nat → Sb) : ∀ {i j : Nat}, i ≤ j → smL it i ≤ smL it j
  | i, 0, h => by obtain rfl : i = 0 := by omega
                  exact Nat.le_refl _
  | i, j + 1, h => by
    rcases Nat.lt_or_ge i (j + 1) with h1 | h1
    · have := smL_le it (show i ≤ j by omega)
      show _ ≤ smL it j + _
      omega
    · obtain rfl : i = j + 1 := by omega
      exact Nat.le_refl _
/-- What light answers. -/
def LightP (w : World) (it : Nat → Sb) (m n5 : Nat) (e : Ending) (w' : World) : Prop := ∃ t, e = .returned (.bool t) ∧ (t = true → smL it m ≤ 9000 ∧ n5 ≤ 20) ∧ Below w.heap.size w w'
set_option maxRecDepth 100000 in
set_option maxHeartbeats 1000000 in
theorem light_any {W w : World} (k n : Int) {A : Option Addr} {m c : Nat} {it : Nat → Sb} {A5 : Option Addr} {n5 c5 : Nat} (h : PartsIn W A m c it) (hb : Below W.heap.size W w) (h5 : n5 ≤ 9223372036854775807) :
    Calls Tryz.prog 19 #[.agg #[.int .i64 k, .int .i64 n, .slice A m c, .slice A5 n5 c5]] w (LightP w it m n5) := by
  have hP := hide h
  have hmx : (m : Int) ≤ 9223372036854775807 := by have := h.le; have := h.room; omega
  have hB := hide (below_alloc' w (.cells #[.int .i64 k, .int .i64 n, .slice A m c, .slice A5 n5 c5] 46))
  have hR := Row.new w 46 #[.int .i64 k, .int .i64 n, .slice A m c, .slice A5 n5 c5]
  have q2 := hR.cell 2
  have q3 := hR.cell 3
  simp only [List.getElem?_toArray, List.getElem?_cons_zero, List.getElem?_cons_succ] at q2 q3
  have hlow := hide (kept_trans hb hB.out)
  clear h hR
  go_enter Tryz.func19, Tryz.ntmps19
  go_upto_region 1 with (fail)
  generalize hw1 : World.alloc _ _ = w1 at hB hlow q2 q3 ⊢
  clear hw1
  have hres := hide (fun (t : Bool) (h : t = true → smL it m ≤ 9000 ∧ n5 ≤ 20) => (⟨t, rfl, h, hB.out⟩ : LightP w it m n5 (.returned (.bool t)) w1))
  clear hB
  generalize hgb : w.heap.size = gb at q2 q3 ⊢
  clear hgb
  go_wp2
  go_loopw [3, 4] (fun s i wr => ∃ (j : Nat), i = .int .i64 j ∧ s = .int .i64 (smL it j : Nat) ∧ j ≤ m ∧ smL it j ≤ 9000 ∧ w1 = wr) (fun _ i _ => m - (intOf i).toNat)
  case atStart => exact ⟨0, rfl, rfl, by omega, Nat.zero_le _, rfl⟩
  case round =>
    obtain ⟨j, rfl, rfl, hj, hs, rfl⟩ := hrel
    by_cases hlt : j < m
    · have t1 : decide ((j : Int) < (m : Int)) = true := by simp; omega
      have t2 : decide (j < m) = true := by simp; omega
      obtain ⟨b, off, rfl, hbl, hc, hin⟩ := hP.out.at_ j hlt
      have cw := (hlow.out.cell (p := ⟨b, off + j, none⟩) hbl).trans hc
      have hstep := hide (show smL it (j + 1) = smL it j + ((it j).zs.length + 1) from rfl)
      have hmono := hide (smL_le it (show j + 1 ≤ m by omega))
      have hlen := hin.len
      have hnb := hin.le
      have hroom := hin.room
      clear hc hin
      generalize (it j).A = A' at *
      generalize (it j).c = c' at *
      generalize (it j).zs = zs at *
      generalize (it j).n = nn at *
      obtain ⟨s2, hs2⟩ : ∃ v, smL it (j + 1) = v := ⟨_, rfl⟩
      have hs2' := hide hs2
      have hse : s2 = smL it j + (nn + 1) := by rw [← hs2, hstep.out, hlen]
      obtain ⟨s1, hs1⟩ : ∃ v, smL it j + nn = v := ⟨_, rfl⟩
      rw [hs2] at hmono
      clear hs2
      have x1 : IntKind.i64.wrap (((smL it j : Nat) : Int) + (nn : Int)) = (s1 : Int) := by rw [IntKind.wrap_i64]; omega
      have x2 : IntKind.i64.wrap ((s1 : Int) + 1) = (s2 : Int) := by rw [IntKind.wrap_i64]; omega
      have hcase : (decide ((9000 : Int) < (s2 : Int)) = true ∧ decide (9000 < s2) = true ∧ Hid (9000 < s2)) ∨ (decide ((9000 : Int) < (s2 : Int)) = false ∧ decide (9000 < s2) = false ∧ Hid (s2 ≤ 9000)) := by
        by_cases h9 : 9000 < s2
        · exact .inl ⟨decide_eq_true (by omega), decide_eq_true h9, h9⟩
        · exact .inr ⟨decide_eq_false (by omega), decide_eq_false h9, (show s2 ≤ 9000 by omega)⟩
      clear hse hs1 hlen hnb hroom hs
      generalize smL it j = s0 at *
      rcases hcase with ⟨y1, y2, y3⟩ | ⟨y1, y2, y3⟩
      · go_wp2
        go_ret
        exact hres.out false fun h => (by cases h)
      · go_wp2
        go_roundw
        case rel => exact ⟨j + 1, by go_num, by rw [hs2'.out], by omega, by rw [hs2'.out]; exact y3.out, by trivial⟩
        case measure => simp [intOf]; omega
    · obtain rfl : j = m := by omega
      have t1 : decide ((j : Int) < (j : Int)) = false := by simp
      have t2 : decide (j < j) = false := by simp
      have hs := hide hs
      by_cases h20 : n5 ≤ 20
      · have y1 : decide ((n5 : Int) ≤ 20) = true := by simp; omega
        have y2 : decide (n5 ≤ 20) = true := by simp; omega
        have h20 := hide h20
        clear hlt
        go_wp2
        go_ret
        exact hres.out true fun _ => ⟨hs.out, h20.out⟩
      · have y1 : decide ((n5 : Int) ≤ 20) = false := by simp; omega
        have y2 : decide (n5 ≤ 20) = false := by simp; omega
        clear hlt
        go_wp2
        go_ret
        exact hres.out false fun h => (by cases h)
set_option maxRecDepth 100000 in
set_option maxHeartbeats 4000000 in
theorem alike_any {X T : Nat → Prop} {w : World} {p r : Nat} {d d2 : DS} (h1 : Dq X w p d) (h2 : Rk T w r d2) (hl2 : d2.l.length ≤ 100) (hsame : d2.l = d.l) :
    Calls Tryz.prog 27 #[.pointer (some ⟨p, 0, none⟩), .pointer (some ⟨r, 0, none⟩)] w fun e w' => e = .returned (.bool true) ∧ Below w.heap.size w w' := by
  have hn : d.l.length ≤ 100 := by rw [← hsame]; exact hl2
  obtain ⟨n, hnn⟩ : ∃ n, d.l.length = n := ⟨_, rfl⟩
  have hN := hide (show Calls Tryz.prog 48 #[.pointer (some ⟨r, 0, none⟩)] w fun e w' => ∃ A' c', e = .returned (.slice A' n c') ∧ Strs w' A' (nms d.l) ∧ Below w.heap.size w w' from by
    obtain ⟨_, R, A, c, hR⟩ := h2
    have := rnames_any hR (by omega)
    rw [hsame, hnn] at this
    exact this)
  have hnl := hide (show (nms d.l).length = n by rw [length_nms, hnn])
  have hpn := hide (fun (w2 : World) (hb : Below w.heap.size w w2) => (show Calls Tryz.prog 37 #[.pointer (some ⟨p, 0, none⟩)] w2 fun e w' => ∃ A c, e = .returned (.slice A n c) ∧ Strs w' A (nms d.l) ∧ Below w2.heap.size w2 w' from
    (names_q (h1.below hb) (by omega)).mono fun e w' ⟨A, c, he, _, hs, hb2, _⟩ => ⟨A, c, by rw [← hnn]; exact he, hs, hb2⟩))
  have hprd := hide (fun (w2 : World) (hb : Below w.heap.size w w2) (nm : ByteArray) (hs : nm.size ≤ 140737488351232) (f : Fl) (hf : find nm d.l = some f) => (show Calls Tryz.prog 35 #[.pointer (some ⟨p, 0, none⟩), .string nm] w2 fun e w' => ∃ A c, e = .returned (.tuple #[.slice A f.dt.length c, .bool true]) ∧ Lies w' A f.dt ∧ Below w2.heap.size w2 w' from
    (read_q (nm := nm) (h1.below hb) (by unfold maxLen; omega)).mono fun e w' ⟨A, c, he, ho, hb2⟩ => by
      rw [hf] at he ho
      exact ⟨A, c, he, Lies.of_own ho, hb2⟩))
  have hrrd := hide (fun (w2 : World) (hb : Below w.heap.size w w2) (nm : ByteArray) (f : Fl) (hf : find nm d.l = some f) => h2.readb (nm := nm) (by omega) hb (by rw [hsame]; exact hf))
  have hat := hide (show ∀ (s : ByteArray), s ∈ nms d.l → ∃ f, find s d.l = some f ∧ s.size ≤ 140737488351232 ∧ f.dt.length ≤ 4611686018427387904 from fun s hs => by
    obtain ⟨f, hf, rfl⟩ := List.mem_map.1 hs
    have a := (name_size (h1.ok.nm f hf)).2
    have b := flen h1.ok hf
    exact ⟨f, find_of_mem h1.ok.up hf, by show f.nm.size ≤ _; omega, by omega⟩)
  have hb0 := hide (Below.refl w.heap.size w)
  have hn9 : n ≤ 100 := by omega
  clear h1 h2 hsame hnn
  go_enter Tryz.func27, Tryz.ntmps27
  go_upto_region 4 with (first
    | (go_at_call 48; (with_reducible refine hN.out.mono ?_); rintro e w1 ⟨A1, c1, rfl, hs1, hb1⟩; have hs1 := hide hs1; have hb1 := hide hb1)
    | (go_at_call 37; (with_reducible refine (hpn.out _ hb1.out).mono ?_); rintro e w2 ⟨A2, c2, rfl, hs2, hb2⟩; have hs2 := hide hs2; have hb2 := hide hb2; have hsm := hide (sameS_yes A2 A1 n c2 c1 (nms d.l) w2 hnl.out hs2.out (hs1.out.below hb2.out) (by omega)))
    | (go_at_call 59; (with_reducible refine hsm.out.mono ?_); rintro e w3 ⟨rfl, q3, rfl⟩; have hb3 := hide (below_drewN' (kept_trans hb1.out hb2.out) q3); have hs3 := hide ((hs1.out.below hb2.out).below (below_drewN' (Below.refl _ _) q3))))
  generalize World.drewN _ _ = w3 at hb3 hs3 ⊢
  clear hs1 hs2 hb1 hb2 hsm
  go_wp2
  go_loopw [6] (fun i wr => ∃ j : Nat, j ≤ n ∧ i = .int .i64 j ∧ Hid (Below w3.heap.size w3 wr)) (fun i _ => n - (intOf i).toNat)
  case atStart => exact ⟨0, by omega, rfl, Below.refl _ _⟩
  case round =>
    obtain ⟨j, hj, rfl, hbw⟩ := hrel
    have hBw := hide (kept_trans hb3.out hbw.out)
    by_cases hlt : j < n
    · have t1 : decide ((j : Int) < (n : Int)) = true := by simp; omega
      have t2 : decide (j < n) = true := by simp; omega
      obtain ⟨s, hs⟩ : ∃ s, (nms d.l)[j]? = some s := ⟨(nms d.l)[j]'(by rw [hnl.out]; exact hlt), List.getElem?_eq_getElem _⟩
      obtain ⟨b, off, rfl, hbl, hcell⟩ := (hs3.out.below hbw.out).at_ hs
      obtain ⟨f, hf, hsz, hfl⟩ := hat.out s (List.mem_of_getElem? hs)
      have hr1 := hide (hprd.out wr hBw.out s hsz f hf)
      have hr2 := hide (fun (w2 : World) (hb : Below wr.heap.size wr w2) => hrrd.out w2 (kept_trans hBw.out hb) s f hf)
      have hcb := hide (fun (w2 : World) (hb : Below wr.heap.size wr w2) => (hb.cell (p := ⟨b, off + j, none⟩) hbl).trans hcell)
      have hsame := hide (fun (w2 : World) (A B : Option Addr) (c e : Nat) (hA : Lies w2 A f.dt) (hB : Lies w2 B f.dt) => same_any A B f.dt.length f.dt.length c e f.dt f.dt w2 rfl rfl hA hB hfl hfl)
      rw [decide_eq_true rfl] at hsame
      clear hs hf hsz
      generalize f.dt = zs at *
      generalize zs.length = lz at *
      go_wp2_with (first
        | (go_at_call 35; (with_reducible refine hr1.out.mono ?_); rintro e w7 ⟨A7, c7, rfl, h7, hb7⟩; have h7 := hide h7; have hb7 := hide hb7; have hc7 := hcb.out w7 hb7.out)
        | (go_at_call 55; (with_reducible refine (hr2.out _ hb7.out).mono ?_); rintro e w8 ⟨⟨B8, c8, rfl, h8, _⟩, rfl⟩; have h8 := hide h8)
        | (go_at_call 58; (with_reducible refine (hsame.out _ _ _ _ _ h7.out h8.out).mono ?_); rintro e w9 ⟨rfl, q9, rfl⟩; have hb9 := hide (below_drewN' (kept_trans hbw.out hb7.out) q9)))
      go_roundw
      case rel => exact ⟨j + 1, by omega, by go_num, hb9⟩
      case measure => simp [intOf]; omega
    · obtain rfl : j = n := by omega
      have t1 : decide ((j : Int) < (j : Int)) = false := by simp
      have t2 : decide (j < j) = false := by simp
      clear hlt
      go_wp2
      go_ret
      exact ⟨rfl, hBw.out⟩
end Go.Proofs.YtkmcnhjfnjikaaaGreatDoor
