/- KvPlays' state: the list, the model's three rows. No condition. -/
import Derived.Test.YtmcemijipplkgaaCh3
import Derived.Test.YtmcemijipplkgaaLw
import Derived.Test.YtmcemijipplkgaaAsk
namespace Go.Proofs.Ytmcemijipplkgaa
open Go.RowKit
def ksV (l : List Pr) : List (List Value) := l.map fun p => [.string p.k]
def vsV (l : List Pr) : List (List Value) := l.map fun p => [.string p.v]
def tsV (l : List Pr) : List (List Value) := l.map fun p => [.int .i64 p.n]
theorem ks_all (l : List Pr) : AllV 1 (ksV l) := fun x hx => by obtain ⟨p, _, rfl⟩ := List.mem_map.1 hx; exact ⟨rfl, fun u hu => by simp at hu; subst hu; rfl⟩
theorem vs_all (l : List Pr) : AllV 1 (vsV l) := fun x hx => by obtain ⟨p, _, rfl⟩ := List.mem_map.1 hx; exact ⟨rfl, fun u hu => by simp at hu; subst hu; rfl⟩
theorem ts_all (l : List Pr) : AllV 1 (tsV l) := fun x hx => by obtain ⟨p, _, rfl⟩ := List.mem_map.1 hx; exact ⟨rfl, fun u hu => by simp at hu; subst hu; rfl⟩
/-- Rows of unlike elements lie in two blocks. -/
theorem ap_types {base base' sz sz' : Nat} {e e' : TypeId} {w : World} {v v' : Value} {n n' : Nat} {xs xs' : List Value} (h : w.ownsRow base e sz v n xs) (h' : w.ownsRow base' e' sz' v' n' xs') (hne : e ≠ e') : Ap v v' := by
  intro g hg hg'
  rcases h.2 with ⟨rfl, _⟩ | ⟨a, cap, cur, rfl, _, hh, _⟩
  · simp [Value.ownBlock] at hg
  · rcases h'.2 with ⟨rfl, _⟩ | ⟨a', cap', cur', rfl, _, hh', _⟩
    · simp [Value.ownBlock] at hg'
    · simp [Value.ownBlock] at hg hg'
      subst hg hg'
      rw [hh] at hh'
      injection hh' with hh'
      injection hh' with _ h2 _
      exact hne h2
theorem row_off {base sz : Nat} {e t : TypeId} {w : World} {v : Value} {n g : Nat} {xs : List Value} {cs : Array Value} (h : w.ownsRow base e sz v n xs) (hr : Row w g t cs) (hne : t ≠ e) : some g ≠ v.ownBlock := by
  intro hg
  rcases h.2 with ⟨rfl, _⟩ | ⟨a, cap, cur, rfl, _, hh, _⟩
  · simp [Value.ownBlock] at hg
  · simp [Value.ownBlock] at hg
    subst hg
    unfold Row at hr
    rw [hh] at hr
    injection hr with hr
    injection hr with _ h2 _
    exact hne h2.symm
/-- Where the key stands in the model's row, or nowhere. -/
def AtK (ml : List Pr) (key : ByteArray) (a : Int) (n : Nat) : Prop := (a = -1 ∧ ∀ j p, j < n → ml[j]? = some p → p.k ≠ key) ∨ ∃ (j : Nat) (p : Pr), j < n ∧ a = (j : Int) ∧ ml[j]? = some p ∧ p.k = key
theorem AtK.next_no {ml : List Pr} {key : ByteArray} {a : Int} {n : Nat} {p : Pr} (h : AtK ml key a n) (hp : ml[n]? = some p) (he : eqB p.k key = false) : AtK ml key a (n + 1) := by
  rcases h with ⟨h1, h2⟩ | ⟨j, q, h1, h2, h3, h4⟩
  · refine .inl ⟨h1, fun j q hj hq => ?_⟩
    rcases Nat.lt_or_ge j n with h3 | h3
    · exact h2 j q h3 hq
    · obtain rfl : j = n := by omega
      rw [hp] at hq
      cases hq
      intro e
      rw [(eq_iff _ _).2 e] at he; cases he
  · exact .inr ⟨j, q, by omega, h2, h3, h4⟩
theorem AtK.next_yes {ml : List Pr} {key : ByteArray} {n : Nat} {p : Pr} (hp : ml[n]? = some p) (he : eqB p.k key = true) : AtK ml key (n : Int) (n + 1) := .inr ⟨n, p, by omega, rfl, hp, (eq_iff _ _).1 he⟩
/-- The whole state. -/
structure Pl (W w : World) (vm vk vv vt : Value) (M ml : List Pr) (i : Nat) : Prop where
  m : Mine W.heap.size w vm M
  k : Rw W.heap.size 9 1 w vk (ksV ml)
  v : Rw W.heap.size 9 1 w vv (vsV ml)
  t : Rw W.heap.size 3 1 w vt (tsV ml)
  kv : Ap vk vv
  up : Up M
  pm : M.Perm ml
  ok : ∀ p ∈ M, mayB p = true ∧ p.n ≤ i
  few : M.length ≤ 32
  old : Below W.heap.size W w
section
variable {W w w' : World} {vm vk vv vt : Value} {M ml : List Pr} {i : Nat}
theorem Pl.start (W : World) : Pl W W (.slice none 0 0) (.slice none 0 0) (.slice none 0 0) (.slice none 0 0) [] [] 0 :=
  ⟨Mine.nil_ _ _, World.ownsRow_nil _ _ _ _, World.ownsRow_nil _ _ _ _, World.ownsRow_nil _ _ _ _, fun g hg => by simp [Value.ownBlock] at hg, List.Pairwise.nil, List.Perm.refl _, (fun p hp => by cases hp), by simp, Below.refl _ _⟩
theorem Pl.below (h : Pl W w vm vk vv vt M ml i) (hb : Below w.heap.size w w') : Pl W w' vm vk vv vt M ml i :=
  ⟨h.m.below hb, h.k.below hb, h.v.below hb, h.t.below hb, h.kv, h.up, h.pm, h.ok, h.few, h.old.trans (hb.mono h.old.size)⟩
theorem Pl.later (h : Pl W w vm vk vv vt M ml i) : Pl W w vm vk vv vt M ml (i + 1) :=
  ⟨h.m, h.k, h.v, h.t, h.kv, h.up, h.pm, fun p hp => ⟨(h.ok p hp).1, by have := (h.ok p hp).2; omega⟩, h.few, h.old⟩
theorem Pl.len (h : Pl W w vm vk vv vt M ml i) : ml.length = M.length := h.pm.length_eq.symm
theorem Pl.right (h : Pl W w vm vk vv vt M ml i) : rightB M = true := right_of h.up (fun p hp => (h.ok p hp).1) h.few
theorem Pl.ne (h : Pl W w vm vk vv vt M ml i) : ml.Pairwise fun p q => p.k ≠ q.k := (h.pm.pairwise_iff (fun h e => h e.symm)).1 h.up.ne
/-- The key stands nowhere, or at its place. -/
theorem Pl.at_ (h : Pl W w vm vk vv vt M ml i) {key : ByteArray} {a : Int} (ha : AtK ml key a ml.length) : (a = -1 ∧ isB M key = false) ∨ ∃ (j : Nat) (p : Pr), j < ml.length ∧ a = (j : Int) ∧ ml[j]? = some p ∧ p.k = key ∧ isB M key = true ∧ getP M key = p := by
  rcases ha with ⟨h1, h2⟩ | ⟨j, p, h1, h2, h3, h4⟩
  · refine .inl ⟨h1, is_not fun p hp => ?_⟩
    obtain ⟨j, hj⟩ := List.getElem?_of_mem (h.pm.mem_iff.1 hp)
    have hlt : j < ml.length := by
      rcases Nat.lt_or_ge j ml.length with h5 | h5
      · exact h5
      · rw [List.getElem?_eq_none h5] at hj; cases hj
    exact h2 j p hlt hj
  · have := get_mem h.up (h.pm.mem_iff.2 (List.mem_of_getElem? h3))
    rw [h4] at this
    exact .inr ⟨j, p, h1, h2, h3, h4, this.1, this.2⟩
theorem Rw.form {base sz : Nat} {e : TypeId} {v : Value} {xs : List (List Value)} (h : Rw base e sz w v xs) : ∃ A c, v = .slice A xs.length c ∧ (A = none → c = 0) ∧ xs.length ≤ c ∧ c ≤ 9223372036854775807 := by
  obtain ⟨A, c, e, h1, h2, h3, _⟩ := own_form h
  exact ⟨A, c, e, h1, h2, by unfold maxLen at h3; omega⟩
theorem Rw.cell {base n c : Nat} {e : TypeId} {A : Option Addr} {xs : List (List Value)} (h : Rw base e 1 w (.slice A n c) xs) (ha : AllV 1 xs) {j : Nat} {u : Value} (hj : xs[j]? = some [u]) : ∃ g, A = some ⟨g, 0, none⟩ ∧ base ≤ g ∧ g < w.heap.size ∧ w.cell? ⟨g, j, none⟩ = some u ∧ w.frozen? ⟨g, j, none⟩ = false := by
  obtain ⟨_, _, _, e0⟩ : n = xs.length ∧ True ∧ True ∧ True := ⟨by
    rcases h.2 with ⟨e, h0⟩ | ⟨g', cap, cur, e, _⟩
    · injection e with _ e _; omega
    · injection e with _ e _, trivial, trivial, trivial⟩
  have hlt : j < xs.length := by
    rcases Nat.lt_or_ge j xs.length with h1 | h1
    · exact h1
    · rw [List.getElem?_eq_none h1] at hj; cases hj
  have hc : (cellsV xs)[j]? = some u := by
    have := cellsV_of ha hj 0 (by omega)
    simpa using this
  rcases h.2 with ⟨e, h0⟩ | ⟨g', cap, cur, e, hb, hh, _⟩
  · omega
  · injection e with e1 e2 e3
    subst e1
    have h3 := World.ownsRow.cells h (g := g') rfl j u hc
    rw [Go.WideShapes.add_plain, Nat.zero_add] at h3
    refine ⟨g', rfl, hb, (Array.getElem?_eq_some_iff.1 hh).1, h3, ?_⟩
    simp [World.frozen?, hh]
theorem Pl.right_call (h : Pl W w vm vk vv vt M ml i) : Calls Try.prog 15 #[vm] w fun e w' => e = .returned (.bool true) ∧ Below w.heap.size w w' := by
  have e := right_any vm M w h.m.pin (by have := h.few; omega)
  rw [h.right] at e
  exact e
theorem Pl.slices (h : Pl W w vm vk vv vt M ml i) : ∃ (N : Nat) (Am Ak Av At : Option Addr) (cm ck cv ct : Nat), vm = .slice Am N cm ∧ vk = .slice Ak N ck ∧ vv = .slice Av N cv ∧ vt = .slice At N ct ∧ ml.length = N ∧ M.length = N ∧ N ≤ 32 ∧ N ≤ ck ∧ ck ≤ 9223372036854775807 ∧ N ≤ cv ∧ cv ≤ 9223372036854775807 ∧ N ≤ ct ∧ ct ≤ 9223372036854775807 := by
  obtain ⟨Am, cm, e1, -⟩ := h.m.pin
  obtain ⟨Ak, ck, e2, -, k1, k2⟩ := h.k.form
  obtain ⟨Av, cv, e3, -, v1, v2⟩ := h.v.form
  obtain ⟨At, ct, e4, -, t1, t2⟩ := h.t.form
  have hl := h.len
  have l1 : (ksV ml).length = M.length := by unfold ksV; rw [List.length_map, hl]
  have l2 : (vsV ml).length = M.length := by unfold vsV; rw [List.length_map, hl]
  have l3 : (tsV ml).length = M.length := by unfold tsV; rw [List.length_map, hl]
  rw [l1] at e2 k1
  rw [l2] at e3 v1
  rw [l3] at e4 t1
  exact ⟨M.length, Am, Ak, Av, At, cm, ck, cv, ct, e1, e2, e3, e4, hl, rfl, h.few, k1, k2, v1, v2, t1, t2⟩
end
end Go.Proofs.Ytmcemijipplkgaa
