/- Slices of structs, m cells each, as lists of lists of cells: what a slice reads as, and that it stays; append of one; copy. Conditions: it has room. No program is spoken of. -/
import Derived.Test.YtjadbppcjndmlaaBlk
import Derived.Test.YtjadbppcjndmlaaMem
import Derived.Deep.AppendLies
import Derived.Laws.OwnMore
import Derived.Deep.DeepAppendWide
import Derived.Laws.CopyOwn
namespace Go.Proofs.Ytjadbppcjndmlaa
open Go.RowKit
/-- So many structs as cells, one behind the other. -/
def cellsV (l : List (List Value)) : List Value := l.flatten
/-- Each has m cells, each of them one. -/
def AllV (m : Nat) (l : List (List Value)) : Prop := ∀ x, x ∈ l → x.length = m ∧ ∀ u ∈ x, u.oneCell' = true
/-- From address A on there lie the structs l, m cells each, below the heap's end. -/
def Els (m : Nat) (w : World) (A : Option Addr) (l : List (List Value)) : Prop :=
  0 < l.length → ∃ b off, A = some ⟨b, off, none⟩ ∧ b < w.heap.size ∧ ∀ k x, l[k]? = some x → ∀ i, i < m → w.cell? ⟨b, off + k * m + i, none⟩ = x[i]?
section
variable {m : Nat} {l : List (List Value)}
theorem AllV.nil_ : AllV m [] := fun _ h => by cases h
theorem AllV.at_ (h : AllV m l) {k : Nat} {x : List Value} (hk : l[k]? = some x) : x.length = m := (h x (List.mem_of_getElem? hk)).1
theorem AllV.take (h : AllV m l) (n : Nat) : AllV m (l.take n) := fun x hx => h x (List.mem_of_mem_take hx)
theorem AllV.drop (h : AllV m l) (n : Nat) : AllV m (l.drop n) := fun x hx => h x (List.mem_of_mem_drop hx)
theorem AllV.append {l' : List (List Value)} (h : AllV m l) (k : AllV m l') : AllV m (l ++ l') := fun x hx => (List.mem_append.1 hx).elim (h x) (k x)
theorem cellsV_cons (x : List Value) (l : List (List Value)) : cellsV (x :: l) = x ++ cellsV l := rfl
theorem cellsV_append (l l' : List (List Value)) : cellsV (l ++ l') = cellsV l ++ cellsV l' := by unfold cellsV; exact List.flatten_append
theorem length_cellsV : ∀ {l : List (List Value)}, AllV m l → (cellsV l).length = l.length * m
  | [], _ => by simp [cellsV]
  | x :: r, h => by
    rw [cellsV_cons, List.length_append, (h x (by simp)).1, length_cellsV fun y hy => h y (by simp [hy]), List.length_cons, Nat.add_mul, Nat.one_mul, Nat.add_comm]
theorem cellsV_of : ∀ {l : List (List Value)} {k : Nat} {x : List Value}, AllV m l → l[k]? = some x → ∀ i, i < m → (cellsV l)[k * m + i]? = x[i]?
  | [], k, x, _, h => by simp at h
  | y :: r, 0, x, ha, h => fun i hi => by
    simp at h; subst h
    have hy : y.length = m := (ha y (by simp)).1
    rw [cellsV_cons, Nat.zero_mul, Nat.zero_add, List.getElem?_append_left (by rw [hy]; exact hi)]
  | y :: r, k + 1, x, ha, h => fun i hi => by
    have hy : y.length = m := (ha y (by simp)).1
    have := cellsV_of (l := r) (k := k) (x := x) (fun z hz => ha z (by simp [hz])) (by simpa using h) i hi
    rw [cellsV_cons, List.getElem?_append_right (by rw [hy, Nat.add_mul]; omega), hy]
    rw [show (k + 1) * m + i - m = k * m + i by rw [Nat.add_mul]; omega]
    exact this
theorem cellsV_get {j : Nat} {u : Value} (ha : AllV m l) (h : (cellsV l)[j]? = some u) : ∃ k x i, l[k]? = some x ∧ i < m ∧ j = k * m + i ∧ x[i]? = some u := by
  have hj : j < l.length * m := by
    rcases Nat.lt_or_ge j (cellsV l).length with h1 | h1
    · rwa [length_cellsV ha] at h1
    · rw [List.getElem?_eq_none h1] at h; cases h
  have hm : 0 < m := by
    rcases Nat.eq_zero_or_pos m with rfl | h0
    · omega
    · exact h0
  have hd : j / m < l.length := Nat.div_lt_of_lt_mul (by rw [Nat.mul_comm]; exact hj)
  have hx : l[j / m]? = some l[j / m] := List.getElem?_eq_getElem hd
  have e : j = j / m * m + j % m := by have := Nat.div_add_mod j m; rw [Nat.mul_comm] at this; exact this.symm
  have h0 := cellsV_of ha hx (j % m) (Nat.mod_lt _ hm)
  rw [← e, h] at h0
  exact ⟨_, _, _, hx, Nat.mod_lt _ hm, e, h0.symm⟩
theorem cellsV_one (ha : AllV m l) : ∀ u ∈ cellsV l, u.oneCell' = true := fun u hu => by
  unfold cellsV at hu
  obtain ⟨x, hx, hu⟩ := List.mem_flatten.1 hu
  exact (ha x hx).2 u hu
end
section
variable {m : Nat} {w w' : World} {A : Option Addr} {l : List (List Value)}
theorem Els.nil_ : Els m w A [] := fun h => absurd h (by simp)
theorem Els.none_ (h : Els m w none l) : l = [] := by
  rcases l with _ | ⟨x, r⟩
  · rfl
  · obtain ⟨_, _, e, _⟩ := h (by simp)
    cases e
theorem Els.at_ {k : Nat} {x : List Value} (h : Els m w A l) (hk : l[k]? = some x) : ∃ b off, A = some ⟨b, off, none⟩ ∧ b < w.heap.size ∧ ∀ i, i < m → w.cell? ⟨b, off + k * m + i, none⟩ = x[i]? := by
  have hl : k < l.length := by
    rcases Nat.lt_or_ge k l.length with h1 | h1
    · exact h1
    · rw [List.getElem?_eq_none h1] at hk; cases hk
  obtain ⟨b, off, e, hb, hc⟩ := h (by omega)
  exact ⟨b, off, e, hb, hc k x hk⟩
theorem Els.below (h : Els m w A l) (hb : Below w.heap.size w w') : Els m w' A l := fun hn => by
  obtain ⟨b, off, e, hlt, hc⟩ := h hn
  exact ⟨b, off, e, Nat.lt_of_lt_of_le hlt hb.size, fun k x hk i hi => (hb.cell (p := ⟨b, off + k * m + i, none⟩) hlt).trans (hc k x hk i hi)⟩
theorem Els.alloc (h : Els m w A l) (o : Obj) : Els m (w.alloc o) A l := h.below ((Below.refl _ _).alloc (Nat.le_refl _) o)
theorem Els.drewN (h : Els m w A l) (n : Nat) : Els m (w.drewN n) A l := h
theorem Els.drew (h : Els m w A l) : Els m w.drew A l := h
theorem Els.grown {row : Option Nat} (h : Els m w A l) (hg : w.grownBy w' row) (hne : ∀ a, A = some a → some a.block ≠ row) : Els m w' A l := fun hn => by
  obtain ⟨b, off, e, hlt, hc⟩ := h hn
  have hb := hne _ e
  exact ⟨b, off, e, Nat.lt_of_lt_of_le hlt hg.size, fun k x hk i hi => (hg.cell_far ⟨b, off + k * m + i, none⟩ hlt hb).trans (hc k x hk i hi)⟩
theorem Els.take (h : Els m w A l) (n : Nat) : Els m w A (l.take n) := fun hn => by
  obtain ⟨b, off, e, hlt, hc⟩ := h (by rw [List.length_take] at hn; omega)
  refine ⟨b, off, e, hlt, fun k x hk => ?_⟩
  rw [List.getElem?_take] at hk
  split at hk
  · exact hc k x hk
  · cases hk
/-- The rest of a slice from the i-th on: its address as the model reckons it. -/
def partV (m : Nat) (A : Option Addr) (c i : Nat) : Option Addr := if c = i then A else Option.map (fun x => x.add (i * m)) A
theorem Els.rest {c : Nat} (h : Els m w A l) (hc : l.length ≤ c) (i : Nat) : Els m w (partV m A c i) (l.drop i) := fun hn => by
  rw [List.length_drop] at hn
  obtain ⟨b, off, e, hlt, hcell⟩ := h (by omega)
  have hne : ¬ c = i := by omega
  unfold partV
  rw [if_neg hne, e]
  refine ⟨b, off + i * m, ?_, hlt, fun k x hk => ?_⟩
  · show some ((⟨b, off, none⟩ : Addr).add (i * m)) = _
    rw [Go.WideShapes.add_plain]
  · rw [List.getElem?_drop] at hk
    have := hcell _ _ hk
    rw [show off + i * m + k * m = off + (i + k) * m by rw [Nat.add_mul]; omega]
    exact this
theorem partV_none {c i : Nat} (h : A = none → c = 0) (k : partV m A c i = none) : c - i = 0 := by
  unfold partV at k
  split at k
  · omega
  · cases A with
    | none => rw [h rfl]; omega
    | some a => cases k
/-- A block that is just these. -/
theorem els_row {g : Nat} {t : TypeId} {cs : Array Value} (h : Row w g t cs) (ha : AllV m l) (hc : cs.toList = cellsV l) : Els m w (some ⟨g, 0, none⟩) l := fun _ =>
  ⟨g, 0, rfl, h.lt, fun k x hk i hi => by rw [h.cell, ← Array.getElem?_toList, hc, Nat.zero_add]; exact cellsV_of ha hk i hi⟩
/-- What an own slice holds lies. -/
theorem els_own {base : Nat} {e : TypeId} {n c : Nat} (h : w.ownsRow base e m (.slice A n c) n (cellsV l)) (ha : AllV m l) (hm : 0 < m) : Els m w A l ∧ l.length = n := by
  have hn : l.length = n := by
    have := h.1
    rw [length_cellsV ha] at this
    exact Nat.eq_of_mul_eq_mul_right hm this
  refine ⟨fun hp => ?_, hn⟩
  rcases h.2 with ⟨e, h0⟩ | ⟨g, cap, cur, e, hg, hh, q1, q2, q3, q4⟩
  · omega
  · injection e with e1 e2 e3
    subst e1
    refine ⟨g, 0, rfl, (Array.getElem?_eq_some_iff.1 hh).1, fun k x hk i hi => ?_⟩
    have h0 := cellsV_of ha hk i hi
    have hl : k < l.length := by
      rcases Nat.lt_or_ge k l.length with h1 | h1
      · exact h1
      · rw [List.getElem?_eq_none h1] at hk; cases hk
    have hlt : k * m + i < n * m := by
      have : (k + 1) * m ≤ n * m := Nat.mul_le_mul_right m (by omega)
      rw [Nat.add_mul] at this
      omega
    rw [← q4, List.getElem?_take_of_lt hlt, Array.getElem?_toList] at h0
    rw [cell_of_row w g _ cur _ (0, 0) hh, Nat.zero_add]; exact h0
theorem Els.cells {b off : Nat} (h : Els m w (some ⟨b, off, none⟩) l) (ha : AllV m l) : ∀ j u, (cellsV l)[j]? = some u → w.cell? ((⟨b, off, none⟩ : Addr).add j) = some u := fun j u hj => by
  obtain ⟨k, x, i, hk, hi, rfl, hu⟩ := cellsV_get ha hj
  obtain ⟨b', off', e, _, h0⟩ := h.at_ hk
  injection e with e
  injection e with e1 e2 _
  subst e1 e2
  rw [Go.WideShapes.add_plain, ← Nat.add_assoc, h0 i hi, hu]
/-- A slice that the call made: its form. -/
theorem own_form {base : Nat} {e : TypeId} {v : Value} {n : Nat} {xs : List Value} (h : w.ownsRow base e m v n xs) : ∃ A c, v = .slice A n c ∧ (A = none → c = 0) ∧ n ≤ c ∧ c ≤ maxLen ∧ (∀ a, A = some a → a.spot = none ∧ a.off = 0) := by
  rcases h.2 with ⟨rfl, rfl⟩ | ⟨g, cap, cur, rfl, _, _, hc, hm, _⟩
  · exact ⟨none, 0, rfl, fun _ => rfl, Nat.le_refl _, by unfold maxLen; omega, fun a h => by cases h⟩
  · exact ⟨_, cap, rfl, (fun h => by cases h), hc, hm, fun a h => by cases h; exact ⟨rfl, rfl⟩⟩
end
/-- append of a slice that lies, nil and empty too, onto an own one. -/
theorem run_append_els {P : Program} {w : World} {s : Nat} (base : Nat) (t ty e : TypeId) (i : TypeInfo) (z : Value) (by' : Nat) (ht : P.underlying t = some (.slice e)) (hi : P.info? e = some i) (hz : i.zero = some z) (hsize : i.size = s) (hby : i.bytes = by') (hs0 : 0 < s) (hzs : z.cells.size = s)
    (v : Value) (n : Nat) (xs : List (List Value)) (hown : w.ownsRow base e s v n (cellsV xs))
    (A : Option Addr) (m c : Nat) (zs : List (List Value)) (ha : AllV s zs) (hm : zs.length = m) (hc : A = none → c = 0) (hl : Els s w A zs) (hb : (n + m) * by' ≤ 140737488355328) (hb2 : n + m ≤ 140737488355328) (hbase : base ≤ w.heap.size) :
    ∃ v' w', (Builtin.append_ #[t, t] ty #[v, .slice A m c]).run P w = .ok v' w' ∧ w'.ownsRow base e s v' (n + m) (cellsV (xs ++ zs)) ∧ w.grownBy w' v.ownBlock ∧ (v' = .slice none 0 0 ↔ v = .slice none 0 0 ∧ m = 0) := by
  subst hm
  rcases A with _ | ad
  · obtain rfl := hl.none_
    obtain rfl := hc rfl
    exact ⟨v, w, run_append_owned_none (P := P) (w := w) base t ty e i s ht hi v n (cellsV xs) hown, by simpa using hown, grown_refl _ _, by simp⟩
  · have hsp : ∀ j u, (cellsV zs)[j]? = some u → w.cell? (ad.add j) = some u := fun j u hj => by
      rcases zs with _ | ⟨x, r⟩
      · cases hj
      · obtain ⟨b, off, e, _⟩ := hl (by simp)
        injection e with e
        subst e
        exact hl.cells ha j u hj
    obtain ⟨v', w', hr, h1, h2, h3⟩ := run_append_own (P := P) w base t ty e i z s by' ht hi hz hsize hby hzs hs0 v n (cellsV xs) hown ad zs.length c (cellsV zs) (length_cellsV ha) hsp (cellsV_one ha) (by unfold maxLen; omega) (by omega) hbase
    exact ⟨v', w', hr, by rw [cellsV_append]; exact h1, h2, h3⟩
theorem run_copy_els {P : Program} (w : World) (dT sT ty elem : TypeId) (g dLen dCap : Nat) (A : Option Addr) (n c m : Nat) (l : List (List Value)) (hu : P.underlying dT = some (.slice elem)) (hs : (P.info? elem).map (·.size) = some m)
    (cur : Array Value) (t : TypeId) (hg : w.heap[g]? = some (.cells cur t (0, 0))) (hn : l.length = n) (hfit : n ≤ dLen) (hsz : n * m ≤ cur.size) (ha : AllV m l) (hl : Els m w A l) :
    (Builtin.copy_ #[dT, sT] ty #[.slice (some ⟨g, 0, none⟩) dLen dCap, .slice A n c]).run P w = .ok (goInt n) (w.setRow g (cellsV l ++ cur.toList.drop (n * m)).toArray) := by
  have hlen : (cellsV l).length = n * m := by rw [length_cellsV ha, hn]
  have h1 := cellsV_one ha
  have hmin : Nat.min n dLen = n := Nat.min_eq_left hfit
  have hst := run_storeCells_at P g 0 t (cellsV l) 0 cur w hg (by rw [hlen]; omega) h1
  rw [Nat.zero_add, Nat.zero_add, List.take_zero, List.nil_append, hlen] at hst
  cases hq : P.info? elem with
  | none => simp [hq] at hs
  | some i =>
    have hi : i.size = m := by simpa [hq] using hs
    cases A with
    | some a =>
      have hsrc : ∀ j v, (cellsV l)[j]? = some v → w.cell? (a.add j) = some v := fun j v hj => by
        have hp : 0 < l.length := by
          rcases Nat.eq_zero_or_pos l.length with h0 | h0
          · obtain rfl := List.eq_nil_of_length_eq_zero h0
            simp [cellsV] at hj
          · exact h0
        obtain ⟨b, off, e, _, _⟩ := hl hp
        injection e with e
        subst e
        exact hl.cells ha j v hj
      have hld := run_loadCells_list (P := P) w a (cellsV l) hsrc
      rw [hlen] at hld
      simp [Builtin.copy_, run_underlying hu, Builtin.lenOf, Builtin.firstCells, sizeOf, typeInfo, hq, hi, hmin, hld, hst]
    | none =>
      have h0 : n = 0 := by
        rcases Nat.eq_zero_or_pos n with h0 | h0
        · exact h0
        · obtain ⟨b, off, e, _⟩ := hl (by omega)
          cases e
      have e0 : l = [] := List.eq_nil_of_length_eq_zero (by omega)
      subst h0
      rw [e0] at hst ⊢
      simp [cellsV] at hst ⊢
      simp [Builtin.copy_, run_underlying hu, Builtin.lenOf, Builtin.firstCells, sizeOf, typeInfo, hq, hst]
/-- append of one that lies, onto an own one, in the walk. -/
theorem wpList_append_els {P : Program} {w : World} {ops : Array Oper} {rest : List Oper} {o : Oper} {a : Act} {Q : Exit → Act → World → Prop} (hgd : o.guard = none) (s x : Operand) (t : TypeId)
    (ho : o.op = .call { callee := .builtin .append, args := #[s, x], argTypes := #[t, t] }) {sz : Nat}
    (base : Nat) (e : TypeId) (i : TypeInfo) (z : Value) (by' : Nat) (ht : P.underlying t = some (.slice e)) (hi : P.info? e = some i) (hz : i.zero = some z) (hsize : i.size = sz) (hby : i.bytes = by') (hs0 : 0 < sz) (hzs : z.cells.size = sz)
    (v : Value) (n : Nat) (xs : List (List Value)) (hs : a.eval s = v) (hown : w.ownsRow base e sz v n (cellsV xs))
    (A : Option Addr) (m c : Nat) (zs : List (List Value)) (hx : a.eval x = .slice A m c) (ha : AllV sz zs) (hm : zs.length = m) (hc : A = none → c = 0) (hl : Els sz w A zs) (hb : (n + m) * by' ≤ 140737488355328) (hb2 : n + m ≤ 140737488355328) (hbase : base ≤ w.heap.size)
    (h : ∀ v' w', w'.ownsRow base e sz v' (n + m) (cellsV (xs ++ zs)) → w.grownBy w' v.ownBlock → wpList P ops Q rest (a.put o.dst v') w') : wpList P ops Q (o :: rest) a w := by
  refine wpList_plain hgd fun K hK => ?_
  obtain ⟨v', w', hr, h2, h3, _⟩ := run_append_els (P := P) (w := w) base t o.type e i z by' ht hi hz hsize hby hs0 hzs v n xs hown A m c zs ha hm hc hl hb hb2 hbase
  unfold Oper.wp execOp
  simp only [ho, resolve, invoke, builtin, Sem.run_bind, Sem.run_pure, Result.andThen_ok, List.map_toArray, List.map_cons, List.map_nil, hs, hx, hr]
  exact hK _ _ (h v' w' h2 h3)
theorem step_append_els {P : Program} {w : World} {ops : Array Oper} {o : Oper} {a : Act} {K : Act → World → Prop} {Q : Exit → Act → World → Prop} {E : Prop} {sz : Nat} (hgd : o.guard = none) (s x : Operand) (t : TypeId)
    (ho : o.op = .call { callee := .builtin .append, args := #[s, x], argTypes := #[t, t] })
    (base : Nat) (e : TypeId) (i : TypeInfo) (z : Value) (by' : Nat) (ht : P.underlying t = some (.slice e)) (hi : P.info? e = some i) (hz : i.zero = some z) (hsize : i.size = sz) (hby : i.bytes = by') (hs0 : 0 < sz) (hzs : z.cells.size = sz)
    (v : Value) (n : Nat) (xs : List (List Value)) (hs : a.eval s = v) (hown : w.ownsRow base e sz v n (cellsV xs))
    (A : Option Addr) (m c : Nat) (zs : List (List Value)) (hx : a.eval x = .slice A m c) (ha : AllV sz zs) (hm : zs.length = m) (hc : A = none → c = 0) (hl : Els sz w A zs) (hb : (n + m) * by' ≤ 140737488355328) (hb2 : n + m ≤ 140737488355328) (hbase : base ≤ w.heap.size)
    (h : ∀ v' w', w'.ownsRow base e sz v' (n + m) (cellsV (xs ++ zs)) → w.grownBy w' v.ownBlock → K (a.put o.dst v') w') :
    if Region.wanted o (yielded ops a.tmps) = true then Oper.wp P o a w K Q else E := by
  have hw : Region.wanted o (yielded ops a.tmps) = true := by simp [Region.wanted, hgd]
  rw [if_pos hw]
  obtain ⟨v', w', hr, h2, h3, _⟩ := run_append_els (P := P) (w := w) base t o.type e i z by' ht hi hz hsize hby hs0 hzs v n xs hown A m c zs ha hm hc hl hb hb2 hbase
  unfold Oper.wp execOp
  simp only [ho, resolve, invoke, builtin, Sem.run_bind, Sem.run_pure, Result.andThen_ok, List.map_toArray, List.map_cons, List.map_nil, hs, hx, hr]
  exact h v' w' h2 h3
end Go.Proofs.Ytjadbppcjndmlaa
