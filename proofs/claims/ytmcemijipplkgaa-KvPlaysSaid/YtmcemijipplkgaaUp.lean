/- Lists whose keys rise: where a key stands, what Put and Delete leave. No condition: nothing here speaks of a program. -/
import Derived.Test.YtmcemijipplkgaaPr
namespace Go.Proofs.Ytmcemijipplkgaa
open Go.RowKit
/-- Do the keys rise. -/
def Up (l : List Pr) : Prop := l.Pairwise fun p q => ltB p.k q.k = true
theorem up_of : ∀ {l : List Pr}, (∀ j p q, l[j]? = some p → l[j + 1]? = some q → ltB p.k q.k = true) → Up l
  | [], _ => List.Pairwise.nil
  | p :: r, h => by
    have ih : Up r := up_of (fun j a b ha hb => h (j + 1) a b (by simpa using ha) (by simpa using hb))
    refine List.Pairwise.cons ?_ ih
    intro q hq
    cases r with
    | nil => cases hq
    | cons x r' =>
      have h0 := h 0 p x rfl rfl
      rcases List.mem_cons.1 hq with rfl | hq
      · exact h0
      · exact lt_trans h0 (List.rel_of_pairwise_cons ih hq)
theorem Up.ne {l : List Pr} (h : Up l) : l.Pairwise fun p q => p.k ≠ q.k := h.imp fun {a b} hab e => by rw [e, lt_self] at hab; cases hab
theorem lt_ne {a b : ByteArray} (h : ltB a b = true) : a ≠ b := fun e => by rw [e, lt_self] at h; cases h
theorem lt_not {a b : ByteArray} (h : ltB a b = true) : ltB b a = false := by
  cases h2 : ltB b a
  · rfl
  · have := lt_trans h h2; rw [lt_self] at this; cases this
theorem not_lt {a b : ByteArray} (h : ltB a b = false) (hne : a ≠ b) : ltB b a = true := by
  cases h2 : ltB b a
  · exact absurd (lt_or h h2) hne
  · rfl
/-- Where a key stands in a rising list: ahead of it all are below, from there on none. -/
theorem split_at {l : List Pr} (h : Up l) (key : ByteArray) : ∃ X Y, l = X ++ Y ∧ st l key = X.length ∧ (∀ p ∈ X, ltB p.k key = true) ∧ ∀ p ∈ Y, ltB p.k key = false := by
  induction l with
  | nil => exact ⟨[], [], rfl, rfl, (by simp), (by simp)⟩
  | cons p r ih =>
    obtain ⟨h1, h2⟩ := List.pairwise_cons.1 h
    cases hp : ltB p.k key
    · refine ⟨[], p :: r, rfl, ?_, (by simp), fun q hq => ?_⟩
      · unfold st; rw [List.takeWhile_cons, if_neg (by rw [hp]; simp)]
      · rcases List.mem_cons.1 hq with rfl | hq
        · exact hp
        · cases h3 : ltB q.k key
          · rfl
          · have := lt_trans (h1 q hq) h3; rw [this] at hp; cases hp
    · obtain ⟨X, Y, e, hl, hx, hy⟩ := ih h2
      refine ⟨p :: X, Y, by rw [e]; rfl, ?_, fun q hq => ?_, hy⟩
      · unfold st at hl ⊢; rw [List.takeWhile_cons, if_pos hp, List.length_cons, hl]; rfl
      · rcases List.mem_cons.1 hq with rfl | hq
        · exact hp
        · exact hx q hq
/-- A key that doesn't stand there. -/
theorem not_there {l : List Pr} (h : Up l) {key : ByteArray} (hb : isB l key = false) : ∃ X Y, l = X ++ Y ∧ st l key = X.length ∧ (∀ p ∈ X, ltB p.k key = true) ∧ ∀ p ∈ Y, ltB key p.k = true := by
  obtain ⟨X, Y, e, hl, hx, hy⟩ := split_at h key
  refine ⟨X, Y, e, hl, hx, ?_⟩
  cases Y with
  | nil => simp
  | cons y Y =>
    have hy0 : ltB key y.k = true := by
      refine not_lt (hy y (by simp)) fun hk => ?_
      unfold isB at hb
      rw [hl, e, List.getElem?_append_right (Nat.le_refl _), Nat.sub_self] at hb
      have : eqB y.k key = false := by simpa using hb
      rw [(eq_iff _ _).2 hk] at this; cases this
    intro p hp
    rcases List.mem_cons.1 hp with rfl | hp
    · exact hy0
    · rw [e] at h
      exact lt_trans hy0 (List.rel_of_pairwise_cons (List.pairwise_append.1 h).2.1 hp)
/-- A key that stands there. -/
theorem there {l : List Pr} (h : Up l) {key : ByteArray} (hb : isB l key = true) : ∃ X p Y, l = X ++ p :: Y ∧ st l key = X.length ∧ p.k = key ∧ getP l key = p ∧ (∀ q ∈ X, ltB q.k key = true) ∧ ∀ q ∈ Y, ltB key q.k = true := by
  obtain ⟨X, Y, e, hl, hx, hy⟩ := split_at h key
  obtain ⟨p, hp, hk, hg, _⟩ := isB_some hb
  rw [hl, e, List.getElem?_append_right (Nat.le_refl _), Nat.sub_self] at hp
  cases Y with
  | nil => simp at hp
  | cons y Y =>
    have : y = p := by simpa using hp
    subst this
    refine ⟨X, y, Y, e, hl, hk, hg, hx, fun q hq => ?_⟩
    rw [e] at h
    have := List.rel_of_pairwise_cons (List.pairwise_append.1 h).2.1 hq
    rw [hk] at this; exact this
theorem not_mem {l : List Pr} (h : Up l) {key : ByteArray} (hb : isB l key = false) : ∀ p ∈ l, p.k ≠ key := by
  obtain ⟨X, Y, e, _, hx, hy⟩ := not_there h hb
  intro p hp
  rw [e, List.mem_append] at hp
  rcases hp with hp | hp
  · exact lt_ne (hx p hp)
  · exact (lt_ne (hy p hp)).symm
theorem is_not {l : List Pr} {key : ByteArray} (h : ∀ p ∈ l, p.k ≠ key) : isB l key = false := by
  cases hb : isB l key
  · rfl
  · obtain ⟨p, hp, hk, _⟩ := isB_some hb
    exact absurd hk (h p (List.mem_of_getElem? hp))
theorem get_mem {l : List Pr} (h : Up l) {p : Pr} (hp : p ∈ l) : isB l p.k = true ∧ getP l p.k = p := by
  cases hb : isB l p.k
  · exact absurd rfl (not_mem h hb p hp)
  · refine ⟨rfl, ?_⟩
    obtain ⟨X, q, Y, e, _, hk, hg, hx, hy⟩ := there h hb
    rw [hg]
    rw [e, List.mem_append, List.mem_cons] at hp
    rcases hp with hp | hp | hp
    · exact absurd rfl (lt_ne (hx p hp))
    · exact hp.symm
    · exact absurd rfl (lt_ne (hy p hp))
theorem get_is {l : List Pr} {key : ByteArray} (hb : isB l key = true) : getP l key ∈ l ∧ (getP l key).k = key := by
  obtain ⟨p, hp, hk, hg, _⟩ := isB_some hb
  rw [hg]
  exact ⟨List.mem_of_getElem? hp, hk⟩
/-! ### What is put, taken out -/
theorem put_new {l : List Pr} {key value : ByteArray} {X Y : List Pr} (hb : isB l key = false) (e : l = X ++ Y) (hl : st l key = X.length) : putP l key value = X ++ ⟨key, value, 1⟩ :: Y := by
  unfold putP verP behP
  rw [hb, hl, e]
  simp
theorem put_old {l : List Pr} {key value : ByteArray} {X Y : List Pr} {p : Pr} (hb : isB l key = true) (e : l = X ++ p :: Y) (hl : st l key = X.length) (hg : getP l key = p) : putP l key value = X ++ ⟨key, value, IntKind.i64.wrap (p.n + 1)⟩ :: Y := by
  unfold putP verP behP
  rw [hb, hl, hg, e]
  simp
theorem del_old {l : List Pr} {key : ByteArray} {X Y : List Pr} {p : Pr} (hb : isB l key = true) (e : l = X ++ p :: Y) (hl : st l key = X.length) : delP l key = X ++ Y := by
  unfold delP
  rw [hb, hl, e]
  simp
theorem del_none {l : List Pr} {key : ByteArray} (hb : isB l key = false) : delP l key = l := by unfold delP; rw [hb]; simp
theorem up_mid {X Y : List Pr} {q : Pr} (h : Up (X ++ Y)) (hx : ∀ p ∈ X, ltB p.k q.k = true) (hy : ∀ p ∈ Y, ltB q.k p.k = true) : Up (X ++ q :: Y) := by
  obtain ⟨h1, h2, h3⟩ := List.pairwise_append.1 h
  refine List.pairwise_append.2 ⟨h1, List.pairwise_cons.2 ⟨hy, h2⟩, fun a ha b hb => ?_⟩
  rcases List.mem_cons.1 hb with rfl | hb
  · exact hx a ha
  · exact h3 a ha b hb
theorem up_out {X Y : List Pr} {p : Pr} (h : Up (X ++ p :: Y)) : Up (X ++ Y) :=
  h.sublist (List.Sublist.append_left (List.sublist_cons_self _ _) _)
theorem Up.put {l : List Pr} (h : Up l) (key value : ByteArray) : Up (putP l key value) := by
  cases hb : isB l key
  · obtain ⟨X, Y, e, hl, hx, hy⟩ := not_there h hb
    rw [put_new hb e hl]
    rw [e] at h
    exact up_mid h hx hy
  · obtain ⟨X, p, Y, e, hl, hk, hg, hx, hy⟩ := there h hb
    rw [put_old hb e hl hg]
    rw [e] at h
    exact up_mid (up_out h) hx hy
theorem Up.del {l : List Pr} (h : Up l) (key : ByteArray) : Up (delP l key) := by
  cases hb : isB l key
  · rw [del_none hb]; exact h
  · obtain ⟨X, p, Y, e, hl, hk, hg, hx, hy⟩ := there h hb
    rw [del_old hb e hl]
    rw [e] at h
    exact up_out h
/-- Put, where the key wasn't: one more. -/
theorem perm_new {l : List Pr} (h : Up l) {key value : ByteArray} (hb : isB l key = false) : (putP l key value).Perm (⟨key, value, 1⟩ :: l) := by
  obtain ⟨X, Y, e, hl, _, _⟩ := not_there h hb
  rw [put_new hb e hl, e]
  exact List.perm_middle
/-- Put and Delete, where it was: the others stay. -/
theorem perm_old {l : List Pr} (h : Up l) {key : ByteArray} (value : ByteArray) (hb : isB l key = true) :
    ∃ R, l.Perm (getP l key :: R) ∧ (putP l key value).Perm (⟨key, value, IntKind.i64.wrap ((getP l key).n + 1)⟩ :: R) ∧ (delP l key).Perm R ∧ ∀ q ∈ R, q.k ≠ key := by
  obtain ⟨X, p, Y, e, hl, hk, hg, hx, hy⟩ := there h hb
  refine ⟨X ++ Y, ?_, ?_, ?_, fun q hq => ?_⟩
  · rw [hg]
    conv => lhs; rw [e]
    exact List.perm_middle
  · rw [put_old hb e hl hg, hg]; exact List.perm_middle
  · rw [del_old hb e hl]
  · rcases List.mem_append.1 hq with hq | hq
    · exact lt_ne (hx q hq)
    · exact (lt_ne (hy q hq)).symm
theorem mem_put {l : List Pr} (h : Up l) {key value : ByteArray} {q : Pr} (hq : q ∈ putP l key value) : q.k = key ∨ q ∈ l := by
  cases hb : isB l key
  · have := (perm_new h hb).mem_iff.1 hq
    rcases List.mem_cons.1 this with rfl | this
    · exact .inl rfl
    · exact .inr this
  · obtain ⟨R, h1, h2, _, _⟩ := perm_old h value hb
    have := h2.mem_iff.1 hq
    rcases List.mem_cons.1 this with rfl | this
    · exact .inl rfl
    · exact .inr (h1.mem_iff.2 (List.mem_cons_of_mem _ this))
theorem put_keeps {l : List Pr} (h : Up l) {key value : ByteArray} {q : Pr} (hq : q ∈ l) (hk : q.k ≠ key) : q ∈ putP l key value := by
  cases hb : isB l key
  · exact (perm_new h hb).mem_iff.2 (List.mem_cons_of_mem _ hq)
  · obtain ⟨R, h1, h2, _, _⟩ := perm_old h value hb
    rcases List.mem_cons.1 (h1.mem_iff.1 hq) with e | hR
    · exact absurd (by rw [e]; exact (get_is hb).2) hk
    · exact h2.mem_iff.2 (List.mem_cons_of_mem _ hR)
theorem put_there {l : List Pr} {key value : ByteArray} : (⟨key, value, verP l key⟩ : Pr) ∈ putP l key value := by
  unfold putP; simp
theorem mem_del {l : List Pr} (h : Up l) {key : ByteArray} {q : Pr} (hq : q ∈ delP l key) : q ∈ l := by
  cases hb : isB l key
  · rwa [del_none hb] at hq
  · obtain ⟨R, h1, _, h3, _⟩ := perm_old h key hb
    exact h1.mem_iff.2 (List.mem_cons_of_mem _ (h3.mem_iff.1 hq))
theorem del_keeps {l : List Pr} (h : Up l) {key : ByteArray} {q : Pr} (hq : q ∈ l) (hk : q.k ≠ key) : q ∈ delP l key := by
  cases hb : isB l key
  · rwa [del_none hb]
  · obtain ⟨R, h1, _, h3, _⟩ := perm_old h key hb
    rcases List.mem_cons.1 (h1.mem_iff.1 hq) with e | hR
    · exact absurd (by rw [e]; exact (get_is hb).2) hk
    · exact h3.mem_iff.2 hR
/-- Another key's pair is as it was. -/
theorem get_other {l m : List Pr} (h : Up l) (hm : Up m) {key other : ByteArray} (hne : key ≠ other) (hin : ∀ q ∈ m, q.k = key ∨ q ∈ l) (hk : ∀ q ∈ l, q.k ≠ key → q ∈ m) : isB m other = isB l other ∧ getP m other = getP l other := by
  cases hb : isB l other
  · have : isB m other = false := is_not fun q hq => by
      rcases hin q hq with e | hq
      · rw [e]; exact hne
      · exact not_mem h hb q hq
    exact ⟨this, by rw [getP_none this, getP_none hb]⟩
  · obtain ⟨h1, h2⟩ := get_is hb
    have h3 := hk _ h1 (by rw [h2]; exact hne.symm)
    have := get_mem hm h3
    rw [h2] at this
    exact this
theorem put_other {l : List Pr} (h : Up l) {key other value : ByteArray} (hne : key ≠ other) : isB (putP l key value) other = isB l other ∧ getP (putP l key value) other = getP l other :=
  get_other h (h.put key value) hne (fun _ hq => mem_put h hq) (fun _ hq hk => put_keeps h hq hk)
theorem del_other {l : List Pr} (h : Up l) {key other : ByteArray} (hne : key ≠ other) : isB (delP l key) other = isB l other ∧ getP (delP l key) other = getP l other :=
  get_other h (h.del key) hne (fun _ hq => .inr (mem_del h hq)) (fun _ hq hk => del_keeps h hq hk)
theorem put_self {l : List Pr} (h : Up l) (key value : ByteArray) : isB (putP l key value) key = true ∧ getP (putP l key value) key = ⟨key, value, verP l key⟩ := get_mem (h.put key value) put_there
/-- Put where it wasn't, and taken out. -/
theorem del_put {l : List Pr} (h : Up l) {key value : ByteArray} (hb : isB l key = false) : delP (putP l key value) key = l := by
  obtain ⟨X, Y, e, hl, hx, hy⟩ := not_there h hb
  have hs := put_self h key value
  have e2 : putP l key value = X ++ ⟨key, value, 1⟩ :: Y := put_new hb e hl
  have hst : st (putP l key value) key = X.length := by
    refine st_is (fun i hi => ?_) (fun p hp => ?_)
    · rw [e2, List.getElem?_append_left hi]
      exact ⟨_, List.getElem?_eq_getElem hi, hx _ (List.getElem_mem hi)⟩
    · rw [e2, List.getElem?_append_right (Nat.le_refl _), Nat.sub_self] at hp
      have : (⟨key, value, 1⟩ : Pr) = p := by simpa using hp
      subst this
      exact lt_self key
  rw [del_old hs.1 e2 hst]; exact e.symm
/-- A rising list of pairs that may be stored, not too long, is right. -/
theorem right_of {l : List Pr} (h : Up l) (hm : ∀ p ∈ l, mayB p = true) (hl : l.length ≤ 32) : rightB l = true := right_true ⟨hl, fun j hj => by
  have hp : l[j]? = some l[j] := List.getElem?_eq_getElem hj
  unfold okAt
  rw [hp]
  simp only [hm _ (List.getElem_mem hj), Bool.true_and]
  rcases Nat.eq_zero_or_pos j with h0 | h0
  · subst h0; rfl
  · have hq : l[j - 1]? = some l[j - 1] := List.getElem?_eq_getElem (by omega)
    rw [hq]
    have := List.pairwise_iff_getElem.1 h (j - 1) j (by omega) hj (by omega)
    simp [this]⟩
end Go.Proofs.Ytmcemijipplkgaa
