/- A log, in plain words: cells at their instances, rising, and the cut. No condition: nothing here speaks of a program. -/
import Derived.Test.YtiaegloipnhhdaaGreatQc
namespace Go.Proofs.YtiaegloipnhhdaaGreat
/-- A cell at its instance. -/
structure Lc where
  i : Int × Int
  c : Cl
/-- What a log holds. -/
structure Lw where
  k : List Lc
  d : List Int
/-- Where an instance stands, or would. -/
def posL : List Lc → Int × Int → Nat
  | [], _ => 0
  | e :: l, i => if ltP e.i i then posL l i + 1 else 0
/-- Does a cell stand there? -/
def hereL (l : List Lc) (i : Int × Int) : Bool := match l[posL l i]? with
  | some e => sameP e.i i
  | none => false
/-- P16.2. -/
def cellL (l : List Lc) (i : Int × Int) : Option Cl := (l.find? fun e => sameP e.i i).map (·.c)
def goneL (d : List Int) (i : Int × Int) : Bool := rightI i.1 i.2 && decide (i.2 ≤ ix d i.1.toNat)
/-- May c stand where was stands? -/
def overL (was c : Cl) : Bool :=
  !((was.st == 3 && (!(c.st == 3) || (!sameC c.c was.c || !decide (c.a = was.a)))) || (ltP c.p was.p || (ltP c.v was.v || (decide (c.st < was.st) && sameP c.v was.v))))
def putL (l : List Lc) (i : Int × Int) (c : Cl) : List Lc := if hereL l i then l.set (posL l i) ⟨i, c⟩ else l.take (posL l i) ++ ⟨i, c⟩ :: l.drop (posL l i)
/-- P16.3: may it be set? -/
def maySet (x : Lw) (i : Int × Int) (c : Cl) : Bool :=
  rightI i.1 i.2 && (!goneL x.d i && (rightCl c && (match cellL x.k i with
    | some was => overL was c
    | none => true)))
def setL (x : Lw) (i : Int × Int) (c : Cl) : Lw := if maySet x i c then ⟨putL x.k i c, x.d⟩ else x
/-- P16.4. -/
def upL (d u : List Int) : List Int := (List.range 7).map fun k => max (ix d k) (min (max (ix u k) 0) 1073741824)
def trimL (x : Lw) (u : List Int) : Lw := ⟨x.k.filter (fun e => !goneL (upL x.d u) e.i), upL x.d u⟩
/-- P16.5. -/
def topE (d : List Int) (e : Lc) : List Int := d.set e.i.1.toNat (max (ix d e.i.1.toNat) e.i.2)
def topL (x : Lw) : List Int := x.k.foldl topE x.d
def zeroLw : Lw := ⟨[], zero7⟩
/-- Rising, each right, above the cut. -/
structure Kl (x : Lw) : Prop where
  d7 : x.d.length = 7
  low : ∀ k, k < 7 → 0 ≤ ix x.d k ∧ ix x.d k ≤ 1073741824
  up : x.k.Pairwise fun e f => ltP e.i f.i = true
  ok : ∀ e, e ∈ x.k → rightI e.i.1 e.i.2 = true ∧ ix x.d e.i.1.toNat < e.i.2 ∧ rightCl e.c = true ∧ e.c.a.length = 8
theorem ltP_iff {a b : Int × Int} : ltP a b = true ↔ a.1 < b.1 ∨ (a.1 = b.1 ∧ a.2 < b.2) := by
  obtain ⟨p, q⟩ := a
  obtain ⟨r, s⟩ := b
  show (decide (p < r) || (p == r && decide (q < s))) = true ↔ _
  simp
theorem ltP_irrefl (a : Int × Int) : ltP a a = false := by
  cases h : ltP a a
  · rfl
  · rw [ltP_iff] at h; omega
theorem ltP_trans {a b c : Int × Int} (h : ltP a b = true) (k : ltP b c = true) : ltP a c = true := by
  rw [ltP_iff] at *
  omega
theorem ltP_total (a b : Int × Int) : ltP a b = true ∨ a = b ∨ ltP b a = true := by
  obtain ⟨p, q⟩ := a
  obtain ⟨r, s⟩ := b
  simp only [ltP_iff, Prod.mk.injEq]
  omega
theorem ltP_asymm {a b : Int × Int} (h : ltP a b = true) : ltP b a = false := by
  cases k : ltP b a
  · rfl
  · rw [ltP_iff] at h k; omega
theorem ltP_ne {a b : Int × Int} (h : ltP a b = true) : a ≠ b := fun e => by rw [e, ltP_irrefl] at h; cases h
theorem posL_le (l : List Lc) (i : Int × Int) : posL l i ≤ l.length := by
  induction l with
  | nil => exact Nat.le_refl _
  | cons e l ih => unfold posL; split <;> simp <;> omega
/-- What stands ahead of the place is less. -/
theorem posL_lt {l : List Lc} {i : Int × Int} : ∀ {k : Nat} {e : Lc}, k < posL l i → l[k]? = some e → ltP e.i i = true := by
  induction l with
  | nil => intro k e h; exact absurd h (by unfold posL; omega)
  | cons a l ih =>
    intro k e h hk
    unfold posL at h
    split at h
    · cases k with
      | zero => simp at hk; subst hk; assumption
      | succ k => exact ih (k := k) (by omega) (by simpa using hk)
    · omega
/-- What stands at the place is not. -/
theorem posL_at {l : List Lc} {i : Int × Int} {e : Lc} : l[posL l i]? = some e → ltP e.i i = false := by
  induction l with
  | nil => intro h; cases h
  | cons a l ih =>
    intro h
    unfold posL at h
    by_cases ha : ltP a.i i = true
    · rw [if_pos ha] at h; exact ih (by simpa using h)
    · rw [if_neg ha] at h; simp at h; subst h; simpa using ha
/-- The place, told by what stands about it. -/
theorem posL_is {l : List Lc} {i : Int × Int} {k : Nat} (h1 : ∀ j e, j < k → l[j]? = some e → ltP e.i i = true) (h2 : ∀ e, l[k]? = some e → ltP e.i i = false) (hk : k ≤ l.length) : posL l i = k := by
  rcases Nat.lt_trichotomy (posL l i) k with h | h | h
  · have hl : posL l i < l.length := by omega
    have e1 := h1 _ _ h (List.getElem?_eq_getElem hl)
    rw [posL_at (List.getElem?_eq_getElem hl)] at e1
    cases e1
  · exact h
  · have hl : k < l.length := Nat.lt_of_lt_of_le h (posL_le l i)
    have e1 := posL_lt h (List.getElem?_eq_getElem hl)
    rw [h2 _ (List.getElem?_eq_getElem hl)] at e1
    cases e1
section
variable {l : List Lc} {i : Int × Int} {c : Cl}
theorem up_at (h : l.Pairwise fun e f => ltP e.i f.i = true) {j k : Nat} {e f : Lc} (hj : l[j]? = some e) (hk : l[k]? = some f) (hjk : j < k) : ltP e.i f.i = true := by
  obtain ⟨h1, rfl⟩ := List.getElem?_eq_some_iff.1 hj
  obtain ⟨h2, rfl⟩ := List.getElem?_eq_some_iff.1 hk
  exact List.pairwise_iff_getElem.1 h j k h1 h2 hjk
/-- Behind the place all is more, or it. -/
theorem posL_ge (h : l.Pairwise fun e f => ltP e.i f.i = true) {k : Nat} {e : Lc} (hk : posL l i ≤ k) (he : l[k]? = some e) : ltP e.i i = false := by
  rcases Nat.eq_or_lt_of_le hk with rfl | hk
  · exact posL_at he
  · have hl : posL l i < l.length := by have := (List.getElem?_eq_some_iff.1 he).1; omega
    have h1 := up_at h (List.getElem?_eq_getElem hl) he hk
    have h2 := posL_at (List.getElem?_eq_getElem hl)
    cases h3 : ltP e.i i
    · rfl
    · rw [ltP_trans h1 h3] at h2; cases h2
/-- A cell stands there just if one of the list does. -/
theorem here_iff (h : l.Pairwise fun e f => ltP e.i f.i = true) : hereL l i = true ↔ ∃ e, e ∈ l ∧ e.i = i := by
  unfold hereL
  constructor
  · intro h1
    cases hp : l[posL l i]? with
    | none => rw [hp] at h1; cases h1
    | some e => rw [hp] at h1; exact ⟨e, List.mem_of_getElem? hp, sameP_iff.1 h1⟩
  · rintro ⟨e, he, rfl⟩
    obtain ⟨k, hk⟩ := List.getElem?_of_mem he
    have hp : posL l e.i = k := posL_is (fun j f hj hf => up_at h hf hk hj) (fun f hf => by rw [hk] at hf; cases hf; exact ltP_irrefl _) (by have := (List.getElem?_eq_some_iff.1 hk).1; omega)
    rw [hp, hk]
    exact sameP_iff.2 rfl
theorem here_at (h : hereL l i = true) : ∃ e, l[posL l i]? = some e ∧ e.i = i := by
  unfold hereL at h
  cases hp : l[posL l i]? with
  | none => rw [hp] at h; cases h
  | some e => rw [hp] at h; exact ⟨e, rfl, sameP_iff.1 h⟩
theorem cell_some (h : l.Pairwise fun e f => ltP e.i f.i = true) {k : Nat} {e : Lc} (hk : l[k]? = some e) : cellL l e.i = some e.c := by
  unfold cellL
  induction l generalizing k with
  | nil => cases hk
  | cons a l ih =>
    obtain ⟨ha, hl⟩ := List.pairwise_cons.1 h
    cases k with
    | zero => simp at hk; subst hk; rw [List.find?_cons, sameP_iff.2 rfl]; rfl
    | succ k =>
      have hk : l[k]? = some e := by simpa using hk
      have h1 := ltP_ne (ha e (List.mem_of_getElem? hk))
      have h2 : sameP a.i e.i = false := by cases h3 : sameP a.i e.i; · rfl
                                            · exact absurd (sameP_iff.1 h3) h1
      rw [List.find?_cons, h2]
      exact ih hl hk
theorem cell_here (h : l.Pairwise fun e f => ltP e.i f.i = true) (hh : hereL l i = true) : ∃ e, l[posL l i]? = some e ∧ e.i = i ∧ cellL l i = some e.c := by
  obtain ⟨e, he, rfl⟩ := here_at hh
  exact ⟨e, he, rfl, cell_some h he⟩
theorem cell_none (h : l.Pairwise fun e f => ltP e.i f.i = true) (hh : hereL l i = false) : cellL l i = none := by
  unfold cellL
  rw [Option.map_eq_none_iff, List.find?_eq_none]
  intro e he h1
  rw [(here_iff h).2 ⟨e, he, sameP_iff.1 h1⟩] at hh
  cases hh
theorem cell_mem {l : List Lc} {i : Int × Int} {c : Cl} (h : cellL l i = some c) : ⟨i, c⟩ ∈ l := by
  unfold cellL at h
  obtain ⟨e, he, rfl⟩ := Option.map_eq_some_iff.1 h
  have h1 := List.find?_some he
  have h2 := sameP_iff.1 h1
  subst h2
  exact List.mem_of_find?_eq_some he
theorem cell_iff (h : l.Pairwise fun e f => ltP e.i f.i = true) : cellL l i = some c ↔ ⟨i, c⟩ ∈ l :=
  ⟨cell_mem, fun hm => by obtain ⟨k, hk⟩ := List.getElem?_of_mem hm; exact cell_some (e := ⟨i, c⟩) h hk⟩
end
end Go.Proofs.YtiaegloipnhhdaaGreat
/- What a log's calls keep: setting, trimming, the top. No condition: nothing here speaks of a program. -/
namespace Go.Proofs.YtiaegloipnhhdaaGreat
theorem mem_put {l : List Lc} {i : Int × Int} {c : Cl} (h : l.Pairwise fun e f => ltP e.i f.i = true) (e : Lc) : e ∈ putL l i c ↔ e = ⟨i, c⟩ ∨ (e ∈ l ∧ e.i ≠ i) := by
  unfold putL
  cases hh : hereL l i
  · have hn : ∀ e, e ∈ l → e.i ≠ i := fun e he h1 => by rw [(here_iff h).2 ⟨e, he, h1⟩] at hh; cases hh
    rw [if_neg (by simp), List.mem_append, List.mem_cons]
    have hs : e ∈ l ↔ e ∈ l.take (posL l i) ∨ e ∈ l.drop (posL l i) := by rw [← List.mem_append, List.take_append_drop]
    constructor
    · rintro (h1 | h1 | h1)
      · exact .inr ⟨hs.2 (.inl h1), hn _ (hs.2 (.inl h1))⟩
      · exact .inl h1
      · exact .inr ⟨hs.2 (.inr h1), hn _ (hs.2 (.inr h1))⟩
    · rintro (h1 | ⟨h1, _⟩)
      · exact .inr (.inl h1)
      · rcases hs.1 h1 with h2 | h2
        · exact .inl h2
        · exact .inr (.inr h2)
  · obtain ⟨a, ha, rfl⟩ := here_at hh
    have hp := (List.getElem?_eq_some_iff.1 ha).1
    rw [if_pos rfl]
    constructor
    · intro he
      obtain ⟨k, hk⟩ := List.getElem?_of_mem he
      by_cases h1 : posL l a.i = k
      · subst h1
        rw [List.getElem?_set_self hp] at hk
        cases hk
        exact .inl rfl
      · rw [List.getElem?_set_ne h1] at hk
        refine .inr ⟨List.mem_of_getElem? hk, ?_⟩
        rcases Nat.lt_or_gt_of_ne h1 with h2 | h2
        · exact fun h3 => ltP_ne (up_at h ha hk h2) h3.symm
        · exact ltP_ne (up_at h hk ha h2)
    · rintro (rfl | ⟨he, hne⟩)
      · exact List.mem_of_getElem? (i := posL l a.i) (List.getElem?_set_self hp)
      · obtain ⟨k, hk⟩ := List.getElem?_of_mem he
        refine List.mem_of_getElem? (i := k) ?_
        rw [List.getElem?_set_ne]
        · exact hk
        · intro h1
          rw [h1, hk] at ha
          cases ha
          exact hne rfl
theorem put_up {l : List Lc} {i : Int × Int} {c : Cl} (h : l.Pairwise fun e f => ltP e.i f.i = true) : (putL l i c).Pairwise fun e f => ltP e.i f.i = true := by
  unfold putL
  cases hh : hereL l i
  · have hn : ∀ e, e ∈ l → e.i ≠ i := fun e he h1 => by rw [(here_iff h).2 ⟨e, he, h1⟩] at hh; cases hh
    rw [if_neg (by simp)]
    have ht : ∀ e, e ∈ l.take (posL l i) → ltP e.i i = true := fun e he => by
      obtain ⟨k, hk⟩ := List.getElem?_of_mem he
      rw [List.getElem?_take] at hk
      split at hk
      · exact posL_lt (by assumption) hk
      · cases hk
    have hd : ∀ e, e ∈ l.drop (posL l i) → ltP i e.i = true := fun e he => by
      obtain ⟨k, hk⟩ := List.getElem?_of_mem he
      rw [List.getElem?_drop] at hk
      have h1 := posL_ge h (Nat.le_add_right _ _) hk
      rcases ltP_total e.i i with h2 | h2 | h2
      · rw [h1] at h2; cases h2
      · exact absurd h2 (hn _ (List.mem_of_getElem? hk))
      · exact h2
    refine List.pairwise_append.2 ⟨h.sublist (List.take_sublist _ _), List.pairwise_cons.2 ⟨fun e he => hd e he, h.sublist (List.drop_sublist _ _)⟩, fun a ha b hb => ?_⟩
    rcases List.mem_cons.1 hb with rfl | hb
    · exact ht a ha
    · exact ltP_trans (ht a ha) (hd b hb)
  · obtain ⟨a, ha, rfl⟩ := here_at hh
    rw [if_pos rfl]
    have hm : ∀ l : List Lc, (l.Pairwise fun e f => ltP e.i f.i = true) ↔ (l.map Lc.i).Pairwise fun a b => ltP a b = true := fun l => (List.pairwise_map (R := fun a b => ltP a b = true) (f := Lc.i)).symm
    rw [hm, List.map_set]
    have hs : (l.map Lc.i).set (posL l a.i) a.i = l.map Lc.i := by
      apply List.ext_getElem?
      intro k
      by_cases h1 : posL l a.i = k
      · subst h1
        rw [List.getElem?_set_self (by rw [List.length_map]; exact (List.getElem?_eq_some_iff.1 ha).1), List.getElem?_map, ha]
        rfl
      · rw [List.getElem?_set_ne h1]
    rw [hs, ← hm]
    exact h
theorem cell_put {l : List Lc} {i : Int × Int} {c : Cl} (h : l.Pairwise fun e f => ltP e.i f.i = true) (j : Int × Int) : cellL (putL l i c) j = if i = j then some c else cellL l j := by
  by_cases e : i = j
  · rw [if_pos e, cell_iff (put_up h), mem_put h]
    exact .inl (by rw [e])
  · rw [if_neg e]
    cases hc : cellL l j with
    | some x => rw [cell_iff (put_up h), mem_put h]; exact .inr ⟨cell_mem hc, fun h1 => e h1.symm⟩
    | none =>
      cases hx : cellL (putL l i c) j with
      | none => rfl
      | some x =>
        rcases (mem_put h _).1 (cell_mem hx) with h1 | ⟨h1, _⟩
        · injection h1 with h1; exact absurd h1.symm e
        · rw [(cell_iff h).2 h1] at hc; cases hc
/-- Two logs' lists with the same cells are the same. -/
theorem up_ext {l m : List Lc} (hl : l.Pairwise fun e f => ltP e.i f.i = true) (hm : m.Pairwise fun e f => ltP e.i f.i = true) (h : ∀ i, cellL l i = cellL m i) : l = m := by
  have hi : ∀ e, e ∈ l ↔ e ∈ m := fun ⟨i, c⟩ => by rw [← cell_iff hl, ← cell_iff hm, h]
  induction l generalizing m with
  | nil =>
    cases m with
    | nil => rfl
    | cons b m => exact absurd ((hi b).2 (List.mem_cons_self ..)) (by simp)
  | cons a l ih =>
    cases m with
    | nil => exact absurd ((hi a).1 (List.mem_cons_self ..)) (by simp)
    | cons b m =>
      obtain ⟨ha, hl'⟩ := List.pairwise_cons.1 hl
      obtain ⟨hb, hm'⟩ := List.pairwise_cons.1 hm
      have hab : a = b := by
        rcases List.mem_cons.1 ((hi a).1 (List.mem_cons_self ..)) with h1 | h1
        · exact h1
        · rcases List.mem_cons.1 ((hi b).2 (List.mem_cons_self ..)) with h2 | h2
          · exact h2.symm
          · have h3 := ltP_trans (ha b h2) (hb a h1)
            rw [ltP_irrefl] at h3; cases h3
      subst hab
      have hi' : ∀ e, e ∈ l ↔ e ∈ m := fun e => by
        have h1 := hi e
        rw [List.mem_cons, List.mem_cons] at h1
        constructor
        · intro he
          rcases h1.1 (.inr he) with h2 | h2
          · subst h2; have := ha e he; rw [ltP_irrefl] at this; cases this
          · exact h2
        · intro he
          rcases h1.2 (.inr he) with h2 | h2
          · subst h2; have := hb e he; rw [ltP_irrefl] at this; cases this
          · exact h2
      have hc : ∀ i, cellL l i = cellL m i := fun i => by
        cases h1 : cellL l i with
        | some c => exact ((cell_iff hm').2 ((hi' _).1 (cell_mem h1))).symm
        | none =>
          cases h2 : cellL m i with
          | none => rfl
          | some c => rw [(cell_iff hl').2 ((hi' _).2 (cell_mem h2))] at h1; cases h1
      rw [ih hl' hm' hc hi']
theorem may_parts {x : Lw} {i : Int × Int} {c : Cl} (h : maySet x i c = true) : rightI i.1 i.2 = true ∧ goneL x.d i = false ∧ rightCl c = true ∧ (∀ was, cellL x.k i = some was → overL was c = true) := by
  unfold maySet at h
  simp only [Bool.and_eq_true, Bool.not_eq_true'] at h
  obtain ⟨h1, h2, h3, h4⟩ := h
  exact ⟨h1, h2, h3, fun was hw => by rw [hw] at h4; exact h4⟩
theorem may_mk {x : Lw} {i : Int × Int} {c : Cl} (h1 : rightI i.1 i.2 = true) (h2 : goneL x.d i = false) (h3 : rightCl c = true) (h4 : ∀ was, cellL x.k i = some was → overL was c = true) : maySet x i c = true := by
  unfold maySet
  simp only [Bool.and_eq_true, Bool.not_eq_true']
  refine ⟨h1, h2, h3, ?_⟩
  cases hc : cellL x.k i with
  | none => rfl
  | some was => exact h4 was hc
theorem not_gone {d : List Int} {i : Int × Int} (h : rightI i.1 i.2 = true) (hg : goneL d i = false) : ix d i.1.toNat < i.2 := by
  unfold goneL at hg
  rw [h, Bool.true_and, decide_eq_false_iff_not] at hg
  omega
theorem Kl.zero : Kl zeroLw := ⟨rfl, fun k hk => by
  have : k = 0 ∨ k = 1 ∨ k = 2 ∨ k = 3 ∨ k = 4 ∨ k = 5 ∨ k = 6 := by omega
  rcases this with rfl | rfl | rfl | rfl | rfl | rfl | rfl <;> exact ⟨by decide, by decide⟩, List.Pairwise.nil, fun e he => by cases he⟩
theorem Kl.set {x : Lw} {i : Int × Int} {c : Cl} (h : Kl x) (h8 : c.a.length = 8) : Kl (setL x i c) := by
  unfold setL
  split
  · rename_i hm
    obtain ⟨h1, h2, h3, _⟩ := may_parts hm
    refine ⟨h.d7, h.low, put_up h.up, fun e he => ?_⟩
    rcases (mem_put h.up e).1 he with rfl | ⟨he, _⟩
    · exact ⟨h1, not_gone h1 h2, h3, h8⟩
    · exact h.ok e he
  · exact h
theorem set_d (x : Lw) (i : Int × Int) (c : Cl) : (setL x i c).d = x.d := by unfold setL; split <;> rfl
theorem cell_set {x : Lw} {i : Int × Int} {c : Cl} (h : Kl x) (j : Int × Int) : cellL (setL x i c).k j = if maySet x i c = true ∧ i = j then some c else cellL x.k j := by
  unfold setL
  cases hm : maySet x i c
  · rw [if_neg (by simp), if_neg (by simp)]
  · rw [if_pos rfl]
    simp only [true_and]
    exact cell_put h.up j
theorem ix_upL (d u : List Int) {k : Nat} (hk : k < 7) : ix (upL d u) k = max (ix d k) (min (max (ix u k) 0) 1073741824) := by
  unfold upL
  rw [ix_lt _ (by simp; exact hk)]
  simp
theorem Kl.trim {x : Lw} (h : Kl x) (u : List Int) : Kl (trimL x u) := by
  refine ⟨by unfold trimL upL; simp, fun k hk => ?_, h.up.sublist List.filter_sublist, fun e he => ?_⟩
  · show 0 ≤ ix (upL x.d u) k ∧ _
    rw [show ix (trimL x u).d k = ix (upL x.d u) k from rfl, ix_upL _ _ hk]
    have := h.low k hk
    omega
  · have he : e ∈ x.k.filter (fun e => !goneL (upL x.d u) e.i) := he
    rw [List.mem_filter, Bool.not_eq_true'] at he
    obtain ⟨h1, _, h3, h4⟩ := h.ok e he.1
    exact ⟨h1, not_gone h1 he.2, h3, h4⟩
theorem cell_trim {x : Lw} (h : Kl x) (u : List Int) (i : Int × Int) : cellL (trimL x u).k i = if goneL (upL x.d u) i then none else cellL x.k i := by
  have hm : ∀ c, (⟨i, c⟩ : Lc) ∈ (trimL x u).k ↔ (⟨i, c⟩ : Lc) ∈ x.k ∧ goneL (upL x.d u) i = false := fun c => by
    show _ ∈ x.k.filter (fun e => !goneL (upL x.d u) e.i) ↔ _
    rw [List.mem_filter, Bool.not_eq_true']
  cases hg : goneL (upL x.d u) i
  · rw [if_neg (by simp)]
    cases hc : cellL x.k i with
    | some c => rw [cell_iff (h.trim u).up, hm]; exact ⟨cell_mem hc, hg⟩
    | none =>
      cases h2 : cellL (trimL x u).k i with
      | none => rfl
      | some c => rw [(cell_iff h.up).2 ((hm c).1 (cell_mem h2)).1] at hc; cases hc
  · rw [if_pos rfl]
    cases h2 : cellL (trimL x u).k i with
    | none => rfl
    | some c => rw [((hm c).1 (cell_mem h2)).2] at hg; cases hg
end Go.Proofs.YtiaegloipnhhdaaGreat
/- What is set, in order, and again: P16.7. No condition: nothing here speaks of a program. -/
namespace Go.Proofs.YtiaegloipnhhdaaGreat
theorem over_iff {a b : Cl} : overL a b = true ↔ (a.st = 3 → b.st = 3 ∧ b.c = a.c ∧ b.a = a.a) ∧ ltP b.p a.p = false ∧ ltP b.v a.v = false ∧ (b.v = a.v → a.st ≤ b.st) := by
  unfold overL
  rw [Bool.not_eq_true', Bool.or_eq_false_iff, Bool.or_eq_false_iff, Bool.or_eq_false_iff, Bool.and_eq_false_iff, Bool.and_eq_false_iff, Bool.or_eq_false_iff, Bool.or_eq_false_iff]
  simp only [Bool.not_eq_false', beq_iff_eq, sameC_iff, decide_eq_true_eq, decide_eq_false_iff_not, beq_eq_false_iff_ne, ne_eq]
  constructor
  · rintro ⟨h1, h2, h3, h4⟩
    refine ⟨fun e => h1.resolve_left (fun n => n e), h2, h3, fun e => ?_⟩
    rcases h4 with h | h
    · omega
    · rw [sameP_iff.2 e] at h; cases h
  · rintro ⟨h1, h2, h3, h4⟩
    refine ⟨?_, h2, h3, ?_⟩
    · by_cases e : a.st = 3
      · exact .inr (h1 e)
      · exact .inl e
    · by_cases e : b.v = a.v
      · exact .inl (by have := h4 e; omega)
      · refine .inr ?_
        cases hs : sameP b.v a.v
        · rfl
        · exact absurd (sameP_iff.1 hs) e
theorem over_refl (a : Cl) : overL a a = true := over_iff.2 ⟨fun _ => ⟨by assumption, rfl, rfl⟩, ltP_irrefl _, ltP_irrefl _, fun _ => Int.le_refl _⟩
theorem nlt_trans {a b c : Int × Int} (h : ltP b a = false) (k : ltP c b = false) : ltP c a = false := by
  cases h1 : ltP c a
  · rfl
  · rcases ltP_total a b with h2 | h2 | h2
    · rw [ltP_trans h1 h2] at k; cases k
    · subst h2; rw [h1] at k; cases k
    · rw [h2] at h; cases h
theorem nlt_anti {a b : Int × Int} (h : ltP b a = false) (k : ltP a b = false) : a = b := by
  rcases ltP_total a b with h2 | h2 | h2
  · rw [h2] at k; cases k
  · exact h2
  · rw [h2] at h; cases h
theorem over_trans {a b c : Cl} (h : overL a b = true) (k : overL b c = true) : overL a c = true := by
  obtain ⟨h1, h2, h3, h4⟩ := over_iff.1 h
  obtain ⟨k1, k2, k3, k4⟩ := over_iff.1 k
  refine over_iff.2 ⟨fun e => ?_, nlt_trans h2 k2, nlt_trans h3 k3, fun e => ?_⟩
  · obtain ⟨e1, e2, e3⟩ := h1 e
    obtain ⟨f1, f2, f3⟩ := k1 e1
    exact ⟨f1, f2.trans e2, f3.trans e3⟩
  · have hb : b.v = a.v := (nlt_anti h3 (by rw [e] at k3; exact k3)).symm
    have h5 := h4 hb
    have h6 := k4 (e.trans hb.symm)
    omega
abbrev Rec := (Int × Int) × Cl
def playL (x : Lw) (rs : List Rec) : Lw := rs.foldl (fun x r => setL x r.1 r.2) x
/-- Each of them may be set, in its turn. -/
def allMay : Lw → List Rec → Prop
  | _, [] => True
  | x, r :: rs => maySet x r.1 r.2 = true ∧ allMay (setL x r.1 r.2) rs
/-- The last that is set there. -/
def lastR : List Rec → Int × Int → Option Cl
  | [], _ => none
  | r :: rs, i => match lastR rs i with
    | some c => some c
    | none => if r.1 = i then some r.2 else none
theorem playL_snoc (x : Lw) (rs : List Rec) (r : Rec) : playL x (rs ++ [r]) = setL (playL x rs) r.1 r.2 := by unfold playL; rw [List.foldl_append]; rfl
theorem allMay_snoc {x : Lw} {rs : List Rec} {r : Rec} (h : allMay x rs) (k : maySet (playL x rs) r.1 r.2 = true) : allMay x (rs ++ [r]) := by
  induction rs generalizing x with
  | nil => exact ⟨k, trivial⟩
  | cons a rs ih => exact ⟨h.1, ih h.2 k⟩
theorem play_kl {x : Lw} {rs : List Rec} (h : Kl x) (h8 : ∀ r, r ∈ rs → r.2.a.length = 8) : Kl (playL x rs) := by
  induction rs generalizing x with
  | nil => exact h
  | cons a rs ih => exact ih (h.set (h8 a (List.mem_cons_self ..))) (fun r hr => h8 r (List.mem_cons_of_mem _ hr))
theorem play_d (x : Lw) (rs : List Rec) : (playL x rs).d = x.d := by
  induction rs generalizing x with
  | nil => rfl
  | cons a rs ih => exact (ih _).trans (set_d _ _ _)
/-- What came of sets that were all right. -/
theorem play_once {x : Lw} {rs : List Rec} (h : Kl x) (h8 : ∀ r, r ∈ rs → r.2.a.length = 8) (hm : allMay x rs) :
    (∀ i, cellL (playL x rs).k i = (lastR rs i).or (cellL x.k i)) ∧
    (∀ i was, cellL x.k i = some was → ∃ f, cellL (playL x rs).k i = some f ∧ overL was f = true) ∧
    (∀ r, r ∈ rs → ∃ f, cellL (playL x rs).k r.1 = some f ∧ overL r.2 f = true) := by
  induction rs generalizing x with
  | nil => exact ⟨fun i => rfl, fun i was hw => ⟨was, hw, over_refl _⟩, fun r hr => by cases hr⟩
  | cons a rs ih =>
    have ha := h8 a (List.mem_cons_self ..)
    obtain ⟨h1, h2⟩ := hm
    obtain ⟨i1, i2, i3⟩ := ih (h.set ha) (fun r hr => h8 r (List.mem_cons_of_mem _ hr)) h2
    have hc : ∀ j, cellL (setL x a.1 a.2).k j = if a.1 = j then some a.2 else cellL x.k j := fun j => by rw [cell_set h, h1]; simp
    refine ⟨fun i => ?_, fun i was hw => ?_, fun r hr => ?_⟩
    · refine (i1 i).trans ?_
      rw [hc]
      show _ = (match lastR rs i with | some c => some c | none => if a.1 = i then some a.2 else none).or _
      cases lastR rs i
      · by_cases e : a.1 = i
        · rw [if_pos e, if_pos e]; rfl
        · rw [if_neg e, if_neg e]
      · rfl
    · by_cases e : a.1 = i
      · obtain ⟨f, hf, ho⟩ := i2 i a.2 (by rw [hc, if_pos e])
        refine ⟨f, hf, over_trans ?_ ho⟩
        exact (may_parts h1).2.2.2 was (by rw [e]; exact hw)
      · exact i2 i was (by rw [hc, if_neg e]; exact hw)
    · rcases List.mem_cons.1 hr with rfl | hr
      · exact i2 _ _ (by rw [hc, if_pos rfl])
      · exact i3 r hr
/-- What stands may be replayed: the last of each place comes to stand, whatever stood. -/
theorem play_again {X : Lw} {rs : List Rec} (hX : Kl X) (h8 : ∀ r, r ∈ rs → r.2.a.length = 8) (hr : ∀ r, r ∈ rs → rightI r.1.1 r.1.2 = true ∧ goneL X.d r.1 = false ∧ rightCl r.2 = true ∧ ∃ f, cellL X.k r.1 = some f ∧ overL r.2 f = true)
    {Y : Lw} (hY : Kl Y) (hd : Y.d = X.d) (ha : ∀ i y, cellL Y.k i = some y → ∃ f, cellL X.k i = some f ∧ overL y f = true) (hc : ∀ i, match lastR rs i with | some c => cellL X.k i = some c | none => cellL Y.k i = cellL X.k i) : playL Y rs = X := by
  induction rs generalizing Y with
  | nil =>
    have hk : Y.k = X.k := up_ext hY.up hX.up fun i => hc i
    obtain ⟨a, b⟩ := Y
    obtain ⟨c, d⟩ := X
    simp only at hk hd
    subst hk hd
    rfl
  | cons a rs ih =>
    have h8a := h8 a (List.mem_cons_self ..)
    obtain ⟨q1, q2, q3, f, q4, q5⟩ := hr a (List.mem_cons_self ..)
    refine ih (fun r h => h8 r (List.mem_cons_of_mem _ h)) (fun r h => hr r (List.mem_cons_of_mem _ h)) (hY.set h8a) ((set_d _ _ _).trans hd) (fun i y hy => ?_) (fun i => ?_)
    · rw [cell_set hY] at hy
      split at hy
      · rename_i h1
        cases hy
        rw [← h1.2]
        exact ⟨f, q4, q5⟩
      · exact ha i y hy
    · have h1 := hc i
      unfold lastR at h1
      cases hl : lastR rs i with
      | some c => rw [hl] at h1; exact h1
      | none =>
        rw [hl] at h1
        simp only at h1 ⊢
        rw [cell_set hY]
        by_cases e : a.1 = i
        · rw [if_pos e] at h1
          simp only at h1
          have hm : maySet Y a.1 a.2 = true := may_mk q1 (by rw [hd]; exact q2) q3 fun was hw => by
            obtain ⟨g, hg, ho⟩ := ha _ _ hw
            rw [e, h1] at hg
            cases hg
            exact ho
          rw [if_pos ⟨hm, e⟩, h1]
        · rw [if_neg e] at h1
          rw [if_neg fun h => e h.2]
          exact h1
/-- P16.7: what was set, replayed in order upon what came of it, makes the same log. -/
theorem play_twice {x : Lw} {rs : List Rec} (h : Kl x) (h8 : ∀ r, r ∈ rs → r.2.a.length = 8) (hm : allMay x rs) (hx : x.k = []) : playL (playL x rs) rs = playL x rs := by
  obtain ⟨h1, h2, h3⟩ := play_once h h8 hm
  have hK := play_kl h h8
  have hx0 : ∀ i, cellL x.k i = none := fun i => by rw [hx]; rfl
  have hall : ∀ r, r ∈ rs → rightI r.1.1 r.1.2 = true ∧ goneL x.d r.1 = false ∧ rightCl r.2 = true := by
    clear h1 h2 h3 hK hx hx0
    induction rs generalizing x with
    | nil => intro r hr; cases hr
    | cons a rs ih =>
      intro r hr
      have hp := may_parts hm.1
      rcases List.mem_cons.1 hr with rfl | hr
      · exact ⟨hp.1, hp.2.1, hp.2.2.1⟩
      · have := ih (h.set (h8 a (List.mem_cons_self ..))) (fun r hr => h8 r (List.mem_cons_of_mem _ hr)) hm.2 r hr
        rw [set_d] at this
        exact this
  refine play_again hK h8 (fun r hr => ⟨(hall r hr).1, by rw [play_d]; exact (hall r hr).2.1, (hall r hr).2.2, h3 r hr⟩) hK rfl (fun i y hy => ⟨y, hy, over_refl _⟩) fun i => ?_
  have h4 := h1 i
  rw [hx0] at h4
  cases hl : lastR rs i with
  | some c => rw [hl] at h4; exact h4
  | none => rfl
/-- P16.7: what is Committed stays; a promise and a vote never sink. -/
theorem set_holds {was c : Cl} (h : overL was c = true) : (was.st = 3 → c.st = 3 ∧ c.c = was.c ∧ c.a = was.a) ∧ ltP c.p was.p = false ∧ ltP c.v was.v = false := ⟨(over_iff.1 h).1, (over_iff.1 h).2.1, (over_iff.1 h).2.2.1⟩
end Go.Proofs.YtiaegloipnhhdaaGreat
/- The top, trimming: P16.4, P16.5, P16.7. No condition on a program: nothing here speaks of one. -/
namespace Go.Proofs.YtiaegloipnhhdaaGreat
/-- The greatest slot that was seen of a replica. -/
theorem topE_len (d : List Int) (e : Lc) : (topE d e).length = d.length := by unfold topE; rw [List.length_set]
theorem topF_len (l : List Lc) (d : List Int) : (l.foldl topE d).length = d.length := by
  induction l generalizing d with
  | nil => rfl
  | cons e l ih => rw [List.foldl_cons, ih, topE_len]
theorem topE_ix {d : List Int} (h : d.length = 7) (e : Lc) (h0 : 0 ≤ e.i.1 ∧ e.i.1 < 7) (r : Nat) : ix (topE d e) r = if e.i.1.toNat = r then max (ix d r) e.i.2 else ix d r := by
  unfold topE ix
  rw [List.getD_eq_getElem?_getD, List.getD_eq_getElem?_getD, List.getD_eq_getElem?_getD]
  by_cases hr : e.i.1.toNat = r
  · subst hr
    rw [if_pos rfl, List.getElem?_set_self (by omega)]
    rfl
  · rw [if_neg hr, List.getElem?_set_ne hr]
/-- Each place of the top is the greatest of what was there and of the slots of that replica. -/
theorem topF_ix : ∀ (l : List Lc) {d : List Int}, d.length = 7 → (∀ e, e ∈ l → 0 ≤ e.i.1 ∧ e.i.1 < 7) → ∀ r, ix d r ≤ ix (l.foldl topE d) r ∧ (∀ e, e ∈ l → e.i.1.toNat = r → e.i.2 ≤ ix (l.foldl topE d) r) ∧ (ix (l.foldl topE d) r = ix d r ∨ ∃ e, e ∈ l ∧ e.i.1.toNat = r ∧ ix (l.foldl topE d) r = e.i.2)
  | [], d, _, _, r => ⟨Int.le_refl _, (fun e he => by cases he), .inl rfl⟩
  | a :: l, d, h, h0, r => by
    obtain ⟨i1, i2, i3⟩ := topF_ix l (d := topE d a) (by rw [topE_len]; exact h) (fun e he => h0 e (List.mem_cons_of_mem _ he)) r
    have hx := topE_ix h a (h0 a (List.mem_cons_self ..)) r
    rw [List.foldl_cons]
    refine ⟨?_, fun e he hr => ?_, ?_⟩
    · rw [hx] at i1
      split at i1 <;> omega
    · rcases List.mem_cons.1 he with rfl | he
      · rw [hx, if_pos hr] at i1
        omega
      · exact i2 e he hr
    · rcases i3 with h3 | ⟨e, he, h4, h5⟩
      · rw [hx] at h3
        split at h3
        · rename_i hr
          by_cases hm : a.i.2 ≤ ix d r
          · exact .inl (by omega)
          · exact .inr ⟨a, List.mem_cons_self .., hr, by omega⟩
        · exact .inl h3
      · exact .inr ⟨e, List.mem_cons_of_mem _ he, h4, h5⟩
/-- The order in which a map is gone through does not matter. -/
theorem topF_perm {l m : List Lc} (hp : l.Perm m) {d : List Int} (h : d.length = 7) (h0 : ∀ e, e ∈ l → 0 ≤ e.i.1 ∧ e.i.1 < 7) : l.foldl topE d = m.foldl topE d := by
  have h0' : ∀ e, e ∈ m → 0 ≤ e.i.1 ∧ e.i.1 < 7 := fun e he => h0 e (hp.mem_iff.2 he)
  refine List.ext_getElem (by rw [topF_len, topF_len]) fun r h1 h2 => ?_
  rw [← ix_lt _ h1, ← ix_lt _ h2]
  obtain ⟨a1, a2, a3⟩ := topF_ix l h h0 r
  obtain ⟨b1, b2, b3⟩ := topF_ix m h h0' r
  have q1 : ix (l.foldl topE d) r ≤ ix (m.foldl topE d) r := by
    rcases a3 with e | ⟨e, he, h4, h5⟩
    · omega
    · have := b2 e (hp.mem_iff.1 he) h4; omega
  have q2 : ix (m.foldl topE d) r ≤ ix (l.foldl topE d) r := by
    rcases b3 with e | ⟨e, he, h4, h5⟩
    · omega
    · have := a2 e (hp.mem_iff.2 he) h4; omega
  omega
theorem Kl.rep {x : Lw} (h : Kl x) {e : Lc} (he : e ∈ x.k) : 0 ≤ e.i.1 ∧ e.i.1 < 7 := by
  have h1 := (h.ok e he).1
  unfold rightI repB at h1
  simp only [Bool.and_eq_true, decide_eq_true_eq] at h1
  omega
/-- P16.7: trimmed, the top is the greater of the top and of the cut. -/
theorem top_trim {x : Lw} (h : Kl x) (u : List Int) {r : Nat} (hr : r < 7) : ix (topL (trimL x u)) r = max (ix (topL x) r) (ix (upL x.d u) r) := by
  obtain ⟨a1, a2, a3⟩ := topF_ix x.k h.d7 (fun e he => h.rep he) r
  have ht := h.trim u
  obtain ⟨b1, b2, b3⟩ := topF_ix (trimL x u).k ht.d7 (fun e he => ht.rep he) r
  have hu : ix x.d r ≤ ix (upL x.d u) r := by rw [ix_upL _ _ hr]; omega
  have hd : (trimL x u).d = upL x.d u := rfl
  show ix ((trimL x u).k.foldl topE (trimL x u).d) r = max (ix (x.k.foldl topE x.d) r) _
  rw [hd] at b1 b2 b3 ⊢
  have q1 : ix ((trimL x u).k.foldl topE (upL x.d u)) r ≤ max (ix (x.k.foldl topE x.d) r) (ix (upL x.d u) r) := by
    rcases b3 with e | ⟨e, he, h4, h5⟩
    · omega
    · have := a2 e (List.mem_filter.1 he).1 h4; omega
  have q2 : ix (x.k.foldl topE x.d) r ≤ ix ((trimL x u).k.foldl topE (upL x.d u)) r := by
    rcases a3 with e | ⟨e, he, h4, h5⟩
    · omega
    · by_cases hg : goneL (upL x.d u) e.i = true
      · unfold goneL at hg
        rw [Bool.and_eq_true, decide_eq_true_eq, h4] at hg
        omega
      · have := b2 e (List.mem_filter.2 ⟨he, by simpa using hg⟩) h4
        omega
  omega
theorem upL_low {d u : List Int} (h : d.length = 7) (hu : ∀ k, k < 7 → min (max (ix u k) 0) 1073741824 ≤ ix d k) : upL d u = d := by
  refine List.ext_getElem (by unfold upL; simp; omega) fun k h1 h2 => ?_
  rw [← ix_lt _ h1, ← ix_lt _ h2, ix_upL _ _ (by omega)]
  have := hu k (by omega)
  omega
theorem trim_same {x : Lw} (h : Kl x) {u : List Int} (hu : ∀ k, k < 7 → min (max (ix u k) 0) 1073741824 ≤ ix x.d k) : trimL x u = x := by
  have e := upL_low h.d7 hu
  unfold trimL
  rw [e]
  have : x.k.filter (fun e => !goneL x.d e.i) = x.k := List.filter_eq_self.2 fun e he => by
    obtain ⟨h1, h2, _⟩ := h.ok e he
    unfold goneL
    rw [h1, Bool.true_and]
    simp
    omega
  rw [this]
/-- P16.7: trimming twice is once; by nothing it is none. -/
theorem trim_twice {x : Lw} (h : Kl x) (u : List Int) : trimL (trimL x u) u = trimL x u := trim_same (h.trim u) fun k hk => by
  show _ ≤ ix (upL x.d u) k
  rw [ix_upL _ _ hk]
  omega
theorem trim_zero {x : Lw} (h : Kl x) : trimL x zero7 = x := trim_same h fun k hk => by
  have := h.low k hk
  have hz : ix zero7 k = 0 := by
    have : k = 0 ∨ k = 1 ∨ k = 2 ∨ k = 3 ∨ k = 4 ∨ k = 5 ∨ k = 6 := by omega
    rcases this with rfl | rfl | rfl | rfl | rfl | rfl | rfl <;> rfl
  rw [hz]
  omega
end Go.Proofs.YtiaegloipnhhdaaGreat
