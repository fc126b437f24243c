/- Slices of structs of ints, m cells each, as lists of lists of numbers: what a slice reads as, and that it stays; append of one. Conditions: it has room. No program is spoken of. -/
import Derived.Test.YtpngcocmjbkfgaaBlk
import Derived.Test.YtpngcocmjbkfgaaMem
import Derived.Deep.AppendLies
import Derived.Laws.OwnMore
namespace Go.Proofs.Ytpngcocmjbkfgaa
open Go.RowKit
/-- A struct of ints as cells; so many, one behind the other. -/
def cellsR (x : List Int) : List Value := x.map (Value.int .i64)
def cellsL (l : List (List Int)) : List Value := l.flatMap cellsR
/-- Each has m numbers. -/
def All (m : Nat) (l : List (List Int)) : Prop := ∀ x, x ∈ l → x.length = m
/-- From address A on there lie the structs l, m cells each, below the heap's end. -/
def Its (m : Nat) (w : World) (A : Option Addr) (l : List (List Int)) : Prop :=
  0 < l.length → ∃ b off, A = some ⟨b, off, none⟩ ∧ b < w.heap.size ∧ ∀ k x, l[k]? = some x → ∀ i, i < m → w.cell? ⟨b, off + k * m + i, none⟩ = some (.int .i64 (ix x i))
theorem length_cellsR (x : List Int) : (cellsR x).length = x.length := List.length_map _
theorem cellsR_at (x : List Int) {i : Nat} (h : i < x.length) : (cellsR x)[i]? = some (.int .i64 (ix x i)) := by
  unfold cellsR; rw [List.getElem?_map, List.getElem?_eq_getElem h, ix_lt x h]; rfl
section
variable {m : Nat} {l : List (List Int)}
theorem All.nil_ : All m [] := fun _ h => by cases h
theorem All.cons_ {x : List Int} (h : x.length = m) (k : All m l) : All m (x :: l) := fun y hy => by
  rcases List.mem_cons.1 hy with rfl | hy
  · exact h
  · exact k y hy
theorem All.at_ (h : All m l) {k : Nat} {x : List Int} (hk : l[k]? = some x) : x.length = m := h x (List.mem_of_getElem? hk)
theorem All.take (h : All m l) (n : Nat) : All m (l.take n) := fun x hx => h x (List.mem_of_mem_take hx)
theorem All.drop (h : All m l) (n : Nat) : All m (l.drop n) := fun x hx => h x (List.mem_of_mem_drop hx)
theorem All.append {l' : List (List Int)} (h : All m l) (k : All m l') : All m (l ++ l') := fun x hx => (List.mem_append.1 hx).elim (h x) (k x)
theorem All.rep (n : Nat) {x : List Int} (h : x.length = m) : All m (List.replicate n x) := fun y hy => by rw [(List.mem_replicate.1 hy).2]; exact h
theorem cellsL_cons (x : List Int) (l : List (List Int)) : cellsL (x :: l) = cellsR x ++ cellsL l := rfl
theorem cellsL_append (l l' : List (List Int)) : cellsL (l ++ l') = cellsL l ++ cellsL l' := by unfold cellsL; exact List.flatMap_append
theorem length_cellsL : ∀ {l : List (List Int)}, All m l → (cellsL l).length = l.length * m
  | [], _ => by simp [cellsL]
  | x :: r, h => by
    rw [cellsL_cons, List.length_append, length_cellsR, h x (by simp), length_cellsL fun y hy => h y (by simp [hy]), List.length_cons, Nat.add_mul, Nat.one_mul, Nat.add_comm]
theorem cellsL_of : ∀ {l : List (List Int)} {k : Nat} {x : List Int}, All m l → l[k]? = some x → ∀ i, i < m → (cellsL l)[k * m + i]? = some (.int .i64 (ix x i))
  | [], k, x, _, h => by simp at h
  | y :: r, 0, x, ha, h => fun i hi => by
    simp at h; subst h
    have hy : y.length = m := ha y (by simp)
    rw [cellsL_cons, Nat.zero_mul, Nat.zero_add, List.getElem?_append_left (by rw [length_cellsR, hy]; exact hi)]
    exact cellsR_at y (by omega)
  | y :: r, k + 1, x, ha, h => fun i hi => by
    have hy : y.length = m := ha y (by simp)
    have := cellsL_of (l := r) (k := k) (x := x) (fun z hz => ha z (by simp [hz])) (by simpa using h) i hi
    rw [cellsL_cons, List.getElem?_append_right (by rw [length_cellsR, hy, Nat.add_mul]; omega), length_cellsR, hy]
    rw [show (k + 1) * m + i - m = k * m + i by rw [Nat.add_mul]; omega]
    exact this
theorem cellsL_get {j : Nat} {u : Value} (ha : All m l) (h : (cellsL l)[j]? = some u) : ∃ k x i, l[k]? = some x ∧ i < m ∧ j = k * m + i ∧ u = .int .i64 (ix x i) := by
  have hj : j < l.length * m := by
    rcases Nat.lt_or_ge j (cellsL l).length with h1 | h1
    · rwa [length_cellsL ha] at h1
    · rw [List.getElem?_eq_none h1] at h; cases h
  have hm : 0 < m := by
    rcases Nat.eq_zero_or_pos m with rfl | h0
    · omega
    · exact h0
  have hd : j / m < l.length := Nat.div_lt_of_lt_mul (by rw [Nat.mul_comm]; exact hj)
  have hx : l[j / m]? = some l[j / m] := List.getElem?_eq_getElem hd
  have e : j = j / m * m + j % m := by have := Nat.div_add_mod j m; rw [Nat.mul_comm] at this; exact this.symm
  have h0 := cellsL_of ha hx (j % m) (Nat.mod_lt _ hm)
  rw [← e, h] at h0
  exact ⟨_, _, _, hx, Nat.mod_lt _ hm, e, Option.some.inj h0⟩
theorem cellsR_one (x : List Int) : ∀ u ∈ cellsR x, u.oneCell' = true := fun u hu => by
  unfold cellsR at hu
  obtain ⟨z, _, rfl⟩ := List.mem_map.1 hu
  rfl
theorem cellsL_one : ∀ u ∈ cellsL l, u.oneCell' = true := fun u hu => by
  unfold cellsL at hu
  obtain ⟨x, _, hx⟩ := List.mem_flatMap.1 hu
  exact cellsR_one x u hx
end
section
variable {m : Nat} {w w' : World} {A : Option Addr} {l : List (List Int)}
theorem Its.nil_ : Its m w A [] := fun h => absurd h (by simp)
theorem Its.none_ (h : Its m w none l) : l = [] := by
  rcases l with _ | ⟨x, r⟩
  · rfl
  · obtain ⟨_, _, e, _⟩ := h (by simp)
    cases e
theorem Its.at_ {k : Nat} {x : List Int} (h : Its m w A l) (hk : l[k]? = some x) : ∃ b off, A = some ⟨b, off, none⟩ ∧ b < w.heap.size ∧ ∀ i, i < m → w.cell? ⟨b, off + k * m + i, none⟩ = some (.int .i64 (ix x i)) := by
  have hl : k < l.length := by
    rcases Nat.lt_or_ge k l.length with h1 | h1
    · exact h1
    · rw [List.getElem?_eq_none h1] at hk; cases hk
  obtain ⟨b, off, e, hb, hc⟩ := h (by omega)
  exact ⟨b, off, e, hb, hc k x hk⟩
theorem Its.below (h : Its m w A l) (hb : Below w.heap.size w w') : Its m w' A l := fun hn => by
  obtain ⟨b, off, e, hlt, hc⟩ := h hn
  exact ⟨b, off, e, Nat.lt_of_lt_of_le hlt hb.size, fun k x hk i hi => (hb.cell (p := ⟨b, off + k * m + i, none⟩) hlt).trans (hc k x hk i hi)⟩
theorem Its.alloc (h : Its m w A l) (o : Obj) : Its m (w.alloc o) A l := h.below ((Below.refl _ _).alloc (Nat.le_refl _) o)
theorem Its.drewN (h : Its m w A l) (n : Nat) : Its m (w.drewN n) A l := h
theorem Its.drew (h : Its m w A l) : Its m w.drew A l := h
theorem Its.grown {row : Option Nat} (h : Its m w A l) (hg : w.grownBy w' row) (hne : ∀ a, A = some a → some a.block ≠ row) : Its m w' A l := fun hn => by
  obtain ⟨b, off, e, hlt, hc⟩ := h hn
  have hb := hne _ e
  exact ⟨b, off, e, Nat.lt_of_lt_of_le hlt hg.size, fun k x hk i hi => (hg.cell_far ⟨b, off + k * m + i, none⟩ hlt hb).trans (hc k x hk i hi)⟩
theorem Its.take (h : Its m w A l) (n : Nat) : Its m w A (l.take n) := fun hn => by
  obtain ⟨b, off, e, hlt, hc⟩ := h (by rw [List.length_take] at hn; omega)
  refine ⟨b, off, e, hlt, fun k x hk => ?_⟩
  rw [List.getElem?_take] at hk
  split at hk
  · exact hc k x hk
  · cases hk
/-- The rest of a slice from the i-th on: its address as the model reckons it. -/
def partM (m : Nat) (A : Option Addr) (c i : Nat) : Option Addr := if c = i then A else Option.map (fun x => x.add (i * m)) A
theorem Its.rest {c : Nat} (h : Its m w A l) (hc : l.length ≤ c) (i : Nat) : Its m w (partM m A c i) (l.drop i) := fun hn => by
  rw [List.length_drop] at hn
  obtain ⟨b, off, e, hlt, hcell⟩ := h (by omega)
  have hne : ¬ c = i := by omega
  unfold partM
  rw [if_neg hne, e]
  refine ⟨b, off + i * m, ?_, hlt, fun k x hk => ?_⟩
  · show some ((⟨b, off, none⟩ : Addr).add (i * m)) = _
    rw [Go.WideShapes.add_plain]
  · rw [List.getElem?_drop] at hk
    have := hcell _ _ hk
    rw [show off + i * m + k * m = off + (i + k) * m by rw [Nat.add_mul]; omega]
    exact this
theorem partM_none {c i : Nat} (h : A = none → c = 0) (k : partM m A c i = none) : c - i = 0 := by
  unfold partM at k
  split at k
  · omega
  · cases A with
    | none => rw [h rfl]; omega
    | some a => cases k
/-- A block that is just these. -/
theorem its_row {g : Nat} {t : TypeId} {cs : Array Value} (h : Row w g t cs) (ha : All m l) (hc : cs.toList = cellsL l) : Its m w (some ⟨g, 0, none⟩) l := fun _ =>
  ⟨g, 0, rfl, h.lt, fun k x hk i hi => by rw [h.cell, ← Array.getElem?_toList, hc, Nat.zero_add]; exact cellsL_of ha hk i hi⟩
/-- What an own slice holds lies. -/
theorem its_own {base : Nat} {e : TypeId} {n c : Nat} (h : w.ownsRow base e m (.slice A n c) n (cellsL l)) (ha : All m l) (hm : 0 < m) : Its m w A l ∧ l.length = n := by
  have hn : l.length = n := by
    have := h.1
    rw [length_cellsL ha] at this
    exact Nat.eq_of_mul_eq_mul_right hm this
  refine ⟨fun hp => ?_, hn⟩
  rcases h.2 with ⟨e, h0⟩ | ⟨g, cap, cur, e, hg, hh, q1, q2, q3, q4⟩
  · omega
  · injection e with e1 e2 e3
    subst e1
    refine ⟨g, 0, rfl, (Array.getElem?_eq_some_iff.1 hh).1, fun k x hk i hi => ?_⟩
    have h0 := cellsL_of ha hk i hi
    have hl : k < l.length := by
      rcases Nat.lt_or_ge k l.length with h1 | h1
      · exact h1
      · rw [List.getElem?_eq_none h1] at hk; cases hk
    have hlt : k * m + i < n * m := by
      have : (k + 1) * m ≤ n * m := Nat.mul_le_mul_right m (by omega)
      rw [Nat.add_mul] at this
      omega
    rw [← q4, List.getElem?_take_of_lt hlt, Array.getElem?_toList] at h0
    rw [cell_of_row w g _ cur _ (0, 0) hh, Nat.zero_add]; exact h0
theorem Its.cells {b off : Nat} (h : Its m w (some ⟨b, off, none⟩) l) (ha : All m l) : ∀ j u, (cellsL l)[j]? = some u → w.cell? ((⟨b, off, none⟩ : Addr).add j) = some u := fun j u hj => by
  obtain ⟨k, x, i, hk, hi, rfl, rfl⟩ := cellsL_get ha hj
  obtain ⟨b', off', e, _, h0⟩ := h.at_ hk
  injection e with e
  injection e with e1 e2 _
  subst e1 e2
  rw [Go.WideShapes.add_plain, ← Nat.add_assoc]
  exact h0 i hi
end
/-- append of a slice that lies, nil and empty too, onto an own one. -/
theorem run_append_its {P : Program} {w : World} {s : Nat} (base : Nat) (t ty e : TypeId) (i : TypeInfo) (z : Value) (ht : P.underlying t = some (.slice e)) (hi : P.info? e = some i) (hz : i.zero = some z) (hsize : i.size = s) (hby : i.bytes ≤ 64) (hs0 : 0 < s) (hzs : z.cells.size = s)
    (v : Value) (n : Nat) (xs : List (List Int)) (hown : w.ownsRow base e s v n (cellsL xs))
    (A : Option Addr) (m c : Nat) (zs : List (List Int)) (ha : All s zs) (hm : zs.length = m) (hc : A = none → c = 0) (hl : Its s w A zs) (hb : n + m ≤ 1000000000) (hbase : base ≤ w.heap.size) :
    ∃ v' w', (Builtin.append_ #[t, t] ty #[v, .slice A m c]).run P w = .ok v' w' ∧ w'.ownsRow base e s v' (n + m) (cellsL (xs ++ zs)) ∧ w.grownBy w' v.ownBlock ∧ (v' = .slice none 0 0 ↔ v = .slice none 0 0 ∧ m = 0) := by
  subst hm
  rcases A with _ | ad
  · obtain rfl := hl.none_
    obtain rfl := hc rfl
    exact ⟨v, w, run_append_owned_none (P := P) (w := w) base t ty e i s ht hi v n (cellsL xs) hown, by simpa using hown, grown_refl _ _, by simp⟩
  · have hsp : ∀ j u, (cellsL zs)[j]? = some u → w.cell? (ad.add j) = some u := fun j u hj => by
      rcases zs with _ | ⟨x, r⟩
      · cases hj
      · obtain ⟨b, off, e, _⟩ := hl (by simp)
        injection e with e
        subst e
        exact hl.cells ha j u hj
    obtain ⟨v', w', hr, h1, h2, h3⟩ := run_append_own (P := P) w base t ty e i z s i.bytes ht hi hz hsize rfl hzs hs0 v n (cellsL xs) hown ad zs.length c (cellsL zs) (length_cellsL ha) hsp cellsL_one (by unfold maxLen; omega) (Nat.le_trans (Nat.mul_le_mul hb hby) (by omega)) hbase
    exact ⟨v', w', hr, by rw [cellsL_append]; exact h1, h2, h3⟩
end Go.Proofs.Ytpngcocmjbkfgaa
