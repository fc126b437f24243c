/- KvPlays' state behind each call. No condition. -/
import Derived.Test.YtmcemijipplkgaaPl
import Derived.OwnWalk
namespace Go.Proofs.Ytmcemijipplkgaa
open Go.RowKit
theorem split_list {ml : List Pr} {j : Nat} {p : Pr} (hj : ml[j]? = some p) : ml = ml.take j ++ p :: ml.drop (j + 1) ∧ j < ml.length := by
  have hlt : j < ml.length := by
    rcases Nat.lt_or_ge j ml.length with h1 | h1
    · exact h1
    · rw [List.getElem?_eq_none h1] at hj; cases hj
  rw [List.getElem?_eq_getElem hlt] at hj
  injection hj with hj
  exact ⟨by rw [← hj, ← List.drop_eq_getElem_cons hlt, List.take_append_drop], hlt⟩
section
variable {W w w' : World} {vm vk vv vt vm' vk' vv' vt' : Value} {M ml : List Pr} {i gv gt n c n' c' : Nat} {key value : ByteArray}
/-- The others, as the list has them and as the model's row has them. -/
theorem Pl.others (h : Pl W w vm vk vv vt M ml i) (hb : isB M key = true) {j : Nat} {p : Pr} (hj : ml[j]? = some p) (hg : getP M key = p) (value : ByteArray) :
    ∃ R, M.Perm (p :: R) ∧ (putP M key value).Perm (⟨key, value, IntKind.i64.wrap (p.n + 1)⟩ :: R) ∧ (delP M key).Perm R ∧ R.Perm (ml.take j ++ ml.drop (j + 1)) := by
  obtain ⟨R, h1, h2, h3, _⟩ := perm_old h.up value hb
  rw [hg] at h1 h2
  refine ⟨R, h1, h2, h3, ?_⟩
  have h4 : ml.Perm (p :: (ml.take j ++ ml.drop (j + 1))) := by
    conv => lhs; rw [(split_list hj).1]
    exact List.perm_middle
  exact List.Perm.cons_inv (h1.symm.trans (h.pm.trans h4))
theorem Pl.del (h : Pl W w vm vk vv vt M ml i) (hb : isB M key = true) {j : Nat} {p : Pr} (hj : ml[j]? = some p) (hg : getP M key = p)
    (hm : Mine W.heap.size w' vm' (delP M key)) (hk : Rw W.heap.size 9 1 w' vk' (ksV (ml.take j ++ ml.drop (j + 1)))) (hv : Rw W.heap.size 9 1 w' vv' (vsV (ml.take j ++ ml.drop (j + 1)))) (ht : Rw W.heap.size 3 1 w' vt' (tsV (ml.take j ++ ml.drop (j + 1)))) (ha : Ap vk' vv') (ho : Below W.heap.size W w') :
    Pl W w' vm' vk' vv' vt' (delP M key) (ml.take j ++ ml.drop (j + 1)) (i + 1) := by
  obtain ⟨R, h1, _, h3, h4⟩ := h.others hb hj hg key
  refine ⟨hm, hk, hv, ht, ha, h.up.del key, h3.trans h4, fun q hq => ?_, ?_, ho⟩
  · have := h.ok q (h1.mem_iff.2 (List.mem_cons_of_mem _ (h3.mem_iff.1 hq)))
    exact ⟨this.1, by omega⟩
  · have e1 := h1.length_eq
    have e3 := h3.length_eq
    have := h.few
    rw [List.length_cons] at e1
    omega
/-- Nothing taken out: the list is told anew. -/
theorem Pl.same (h : Pl W w vm vk vv vt M ml i) (hb : Below w.heap.size w w') (hm : Mine w.heap.size w' vm' M) : Pl W w' vm' vk vv vt M ml (i + 1) := by
  have h2 := (h.below hb).later
  exact ⟨hm.mono h.old.size, h2.k, h2.v, h2.t, h2.kv, h2.up, h2.pm, h2.ok, h2.few, h2.old⟩
theorem may_new {key value : ByteArray} (h1 : nilB key = false) (h2 : key.size ≤ 16) (h3 : value.size ≤ 64) {n : Int} (hn : 1 ≤ n) : mayB ⟨key, value, n⟩ = true := by
  unfold mayB
  simp only [h1, Bool.not_false, Bool.true_and, decide_eq_true h2, decide_eq_true h3, decide_eq_true hn]
theorem Pl.putNew (h : Pl W w vm vk vv vt M ml i) (hb : isB M key = false) (hf : M.length < 32) (hmay : nilB key = false ∧ key.size ≤ 16 ∧ value.size ≤ 64)
    (hm : Mine W.heap.size w' vm' (putP M key value)) (hk : Rw W.heap.size 9 1 w' vk' (ksV (ml ++ [⟨key, value, 1⟩]))) (hv : Rw W.heap.size 9 1 w' vv' (vsV (ml ++ [⟨key, value, 1⟩]))) (ht : Rw W.heap.size 3 1 w' vt' (tsV (ml ++ [⟨key, value, 1⟩]))) (ha : Ap vk' vv') (ho : Below W.heap.size W w') :
    Pl W w' vm' vk' vv' vt' (putP M key value) (ml ++ [⟨key, value, 1⟩]) (i + 1) := by
  have h1 := perm_new (value := value) h.up hb
  refine ⟨hm, hk, hv, ht, ha, h.up.put key value, ?_, fun q hq => ?_, ?_, ho⟩
  · exact h1.trans ((List.Perm.cons _ h.pm).trans (List.perm_append_singleton _ _).symm)
  · rcases List.mem_cons.1 (h1.mem_iff.1 hq) with rfl | hq
    · exact ⟨may_new hmay.1 hmay.2.1 hmay.2.2 (by omega), by simp; omega⟩
    · have := h.ok q hq
      exact ⟨this.1, by omega⟩
  · have e1 := h1.length_eq
    rw [List.length_cons] at e1
    omega
theorem Pl.putOld (h : Pl W w vm vk vv vt M ml i) (hi : i ≤ 60) (hb : isB M key = true) (hmay : nilB key = false ∧ key.size ≤ 16 ∧ value.size ≤ 64) {j : Nat} {p : Pr} (hj : ml[j]? = some p) (hg : getP M key = p) (hpk : p.k = key)
    (hm : Mine W.heap.size w' vm' (putP M key value)) (hk : Rw W.heap.size 9 1 w' vk' (ksV ml)) (hv : Rw W.heap.size 9 1 w' vv' ((vsV ml).set j [.string value])) (ht : Rw W.heap.size 3 1 w' vt' ((tsV ml).set j [.int .i64 (p.n + 1)])) (ha : Ap vk' vv') (ho : Below W.heap.size W w') :
    Pl W w' vm' vk' vv' vt' (putP M key value) (ml.set j ⟨key, value, p.n + 1⟩) (i + 1) := by
  obtain ⟨R, h1, h2, _, h4⟩ := h.others hb hj hg value
  have hp := h.ok p (h1.mem_iff.2 (List.mem_cons_self ..))
  have hp1 : 1 ≤ p.n := by
    have := hp.1
    unfold mayB at this
    simp at this
    exact this.2.2.2
  have hw : IntKind.i64.wrap (p.n + 1) = p.n + 1 := by rw [IntKind.wrap_i64]; have := hp.2; omega
  rw [hw] at h2
  obtain ⟨e, hlt⟩ := split_list hj
  have es : ml.set j ⟨key, value, p.n + 1⟩ = ml.take j ++ ⟨key, value, p.n + 1⟩ :: ml.drop (j + 1) := by rw [List.set_eq_take_append_cons_drop, if_pos hlt]
  refine ⟨hm, ?_, ?_, ?_, ha, h.up.put key value, ?_, fun q hq => ?_, ?_, ho⟩
  · have : ksV (ml.set j ⟨key, value, p.n + 1⟩) = ksV ml := by
      unfold ksV
      rw [List.map_set]
      have h5 : (ml.map fun p => [Value.string p.k])[j]? = some [.string key] := by rw [List.getElem?_map, hj]; simp [hpk]
      apply List.ext_getElem?
      intro a
      rw [List.getElem?_set]
      split
      · rename_i hja
        subst hja
        rw [h5, if_pos (by rw [List.length_map]; exact hlt)]
      · rfl
    rw [this]; exact hk
  · unfold vsV; rw [List.map_set]; exact hv
  · unfold tsV; rw [List.map_set]; exact ht
  · rw [es]
    exact h2.trans ((List.Perm.cons _ h4).trans List.perm_middle.symm)
  · rcases List.mem_cons.1 (h2.mem_iff.1 hq) with rfl | hq
    · exact ⟨may_new hmay.1 hmay.2.1 hmay.2.2 (by omega), by have := hp.2; simp only; omega⟩
    · have := h.ok q (h1.mem_iff.2 (List.mem_cons_of_mem _ hq))
      exact ⟨this.1, by omega⟩
  · have e1 := h1.length_eq
    have e2 := h2.length_eq
    have := h.few
    rw [List.length_cons] at e1 e2
    omega
theorem Pl.get_none (h : Pl W w vm vk vv vt M ml i) (hb : isB M key = false) : Calls Try.prog 11 #[vm, .string key] w (Got w zeroP false) := by
  have e := get_got vm M key w h.m.pin (by have := h.few; omega)
  rw [hb, getP_none hb] at e
  exact e
theorem Pl.get_some (h : Pl W w vm vk vv vt M ml i) {p : Pr} (hb : isB M key = true) (hg : getP M key = p) (hk : p.k = key) : Calls Try.prog 11 #[vm, .string key] w (Got w ⟨key, p.v, p.n⟩ true) := by
  have e := get_got vm M key w h.m.pin (by have := h.few; omega)
  rw [hb, hg] at e
  rw [show (⟨key, p.v, p.n⟩ : Pr) = p by rw [← hk]]
  exact e
theorem Pl.delNo (h : Pl W w vm vk vv vt M ml i) (hb : isB M key = false) : Calls Try.prog 10 #[vm, .string key] w (Ans w M (.bool false)) := by
  have e := del_any vm M key w h.m.pin (by have := h.few; omega)
  rw [hb, del_none hb] at e
  exact e
theorem Pl.delYes (h : Pl W w vm vk vv vt M ml i) (hb : isB M key = true) : Calls Try.prog 10 #[vm, .string key] w (Ans w (delP M key) (.bool true)) := by
  have e := del_any vm M key w h.m.pin (by have := h.few; omega)
  rw [hb] at e
  exact e
theorem Pl.put_full (h : Pl W w vm vk vv vt M ml i) (hb : isB M key = false) (hf : 32 ≤ M.length) : Calls Try.prog 9 #[vm, .string key, .string value] w (Ans w [] (.int .i64 7)) := by
  have e := put_any vm M key value w h.m.pin (by have := h.few; omega)
  have hb2 : fullB M key = true := by unfold fullB; rw [hb, decide_eq_true hf]; rfl
  unfold putL putE at e
  rw [hb2] at e
  simpa using e
theorem Pl.put_room (h : Pl W w vm vk vv vt M ml i) (hf : isB M key = true ∨ M.length < 32) : Calls Try.prog 9 #[vm, .string key, .string value] w (Ans w (putP M key value) (.int .i64 0)) := by
  have e := put_any vm M key value w h.m.pin (by have := h.few; omega)
  have hb2 : fullB M key = false := by
    unfold fullB
    rcases hf with hf | hf
    · rw [hf]; rfl
    · rw [decide_eq_false (by omega)]; simp
  unfold putL putE at e
  rw [hb2] at e
  simpa using e
/-- A type of one cell, and its slices'. -/
def El1 (T e : TypeId) : Prop := ∃ i z by', Try.prog.underlying T = some (.slice e) ∧ Try.prog.info? e = some i ∧ i.zero = some z ∧ i.size = 1 ∧ i.bytes = by' ∧ z.cells.size = 1 ∧ by' ≤ 16
theorem el_str : El1 46 9 := by
  obtain ⟨i, hi, hz0, hz1, hz2⟩ := info_parts (show (Try.prog.info? 9).map (fun i => (i.zero, i.size, i.bytes)) = some (some (.string ⟨#[]⟩), 1, 16) by kernel_rfl)
  exact ⟨i, _, _, by kernel_rfl, hi, hz0, hz1, hz2, rfl, by omega⟩
theorem el_int : El1 47 3 := by
  obtain ⟨i, hi, hz0, hz1, hz2⟩ := info_parts (show (Try.prog.info? 3).map (fun i => (i.zero, i.size, i.bytes)) = some (some (.int .i64 0), 1, 8) by kernel_rfl)
  exact ⟨i, _, _, by kernel_rfl, hi, hz0, hz1, hz2, rfl, by omega⟩
theorem step_append_rw {T e : TypeId} (hE : El1 T e) {ops : Array Oper} {o : Oper} {a : Act} {K : Act → World → Prop} {Q : Exit → Act → World → Prop} {E : Prop} {w : World} (hgd : o.guard = none) (s x : Operand)
    (ho : o.op = .call { callee := .builtin .append, args := #[s, x], argTypes := #[T, T] })
    {base : Nat} {v : Value} {xs zs : List (List Value)} (hs : a.eval s = v) (hown : Rw base e 1 w v xs) (A : Option Addr) (m c : Nat) (hx : a.eval x = .slice A m c) (ha : AllV 1 zs) (hm : zs.length = m) (hc : A = none → c = 0) (hl : Els 1 w A zs) (hb : xs.length + m ≤ 1000) (hbase : base ≤ w.heap.size)
    (h : ∀ v' w', Rw base e 1 w' v' (xs ++ zs) → w.grownBy w' v.ownBlock → K (a.put o.dst v') w') : if Region.wanted o (yielded ops a.tmps) = true then Oper.wp Try.prog o a w K Q else E := by
  obtain ⟨i, z, by', hu, hi, hz0, hz1, hz2, hz3, hby⟩ := hE
  refine step_append_els hgd s x T ho base e i z by' hu hi hz0 hz1 hz2 (by omega) hz3 v xs.length xs hs hown A m c zs hx ha hm hc hl ?_ (by omega) hbase ?_
  · have : (xs.length + m) * by' ≤ 1000 * 16 := Nat.mul_le_mul hb hby
    omega
  · intro v' w' h1 h2
    refine h v' w' ?_ h2
    unfold Rw
    rw [List.length_append, hm]
    exact h1
theorem Rw.made {base : Nat} {e : TypeId} {w : World} (hb : base ≤ w.heap.size) : Rw base e 1 (w.alloc (.cells #[] e)) (.slice (some ⟨w.heap.size, 0, none⟩) 0 0) [] := w.ownsRow_made #[] 0 hb (by unfold maxLen; omega) rfl
theorem Rw.lies {base n c : Nat} {e : TypeId} {w : World} {A : Option Addr} {xs : List (List Value)} (h : Rw base e 1 w (.slice A n c) xs) (ha : AllV 1 xs) : Els 1 w A xs ∧ (A = none → c = 0) := by
  obtain ⟨A', c', e1, h1, _⟩ := own_form h
  injection e1 with e1 e2 e3
  subst e1 e3
  have h' := h
  unfold Rw at h'
  rw [← e2] at h'
  exact ⟨(els_own h' ha (by omega)).1, h1⟩
theorem Rw.mono {base b2 : Nat} {e : TypeId} {sz : Nat} {w : World} {v : Value} {xs : List (List Value)} (h : Rw b2 e sz w v xs) (hb : base ≤ b2) : Rw base e sz w v xs := by
  refine ⟨h.1, h.2.imp_right ?_⟩
  rintro ⟨g, cap, cur, h1, h2, h3⟩
  exact ⟨g, cap, cur, h1, Nat.le_trans hb h2, h3⟩
theorem ap_later {b sz sz' : Nat} {e e' : TypeId} {w w' : World} {v v' : Value} {xs xs' : List (List Value)} (h : Rw b e sz w v xs) (h' : Rw w.heap.size e' sz' w' v' xs') : Ap v v' := fun g hg hg' => by
  have h1 := (h.lt g hg).2
  have h2 := (h'.lt g hg').1
  omega
theorem ks_app (l m : List Pr) : ksV (l ++ m) = ksV l ++ ksV m := List.map_append
theorem vs_app (l m : List Pr) : vsV (l ++ m) = vsV l ++ vsV m := List.map_append
theorem ts_app (l m : List Pr) : tsV (l ++ m) = tsV l ++ tsV m := List.map_append
theorem cells_set {l : List (List Value)} (ha : AllV 1 l) {j : Nat} {u : Value} (hj : j < l.length) : cellsV (l.set j [u]) = (cellsV l).set j u := by
  have hl : (cellsV (l.take j)).length = j := by rw [length_cellsV (ha.take j), List.length_take, Nat.min_eq_left (by omega), Nat.mul_one]
  have e : l = l.take j ++ l[j] :: l.drop (j + 1) := by rw [← List.drop_eq_getElem_cons hj, List.take_append_drop]
  obtain ⟨y, hy⟩ : ∃ y, l[j] = [y] := by
    have h1 := (ha l[j] (List.getElem_mem hj)).1
    match h2 : l[j], h1 with
    | [y], _ => exact ⟨y, rfl⟩
  have e1 : cellsV l = cellsV (l.take j) ++ (y :: cellsV (l.drop (j + 1))) := by
    conv => lhs; rw [e, hy]
    rw [cellsV_append]; rfl
  have e2 : cellsV (l.set j [u]) = cellsV (l.take j) ++ (u :: cellsV (l.drop (j + 1))) := by
    rw [List.set_eq_take_append_cons_drop, if_pos hj, cellsV_append]; rfl
  rw [e1, e2, List.set_append_right _ _ (by omega), hl, Nat.sub_self]
  rfl
/-- A store into one place of a row. -/
theorem Rw.stored {base n c g j : Nat} {e : TypeId} {w : World} {xs : List (List Value)} (h : Rw base e 1 w (.slice (some ⟨g, 0, none⟩) n c) xs) (ha : AllV 1 xs) (hj : j < xs.length) (u : Value) : Rw base e 1 (w.setCell ⟨g, j, none⟩ u) (.slice (some ⟨g, 0, none⟩) n c) (xs.set j [u]) := by
  have hn : xs.length = n := by
    rcases h.2 with ⟨e, h0⟩ | ⟨g', cap, cur, e, _⟩
    · cases e
    · injection e with _ e _; exact e.symm
  unfold Rw at h ⊢
  rw [List.length_set, cells_set ha hj]
  rw [hn] at h ⊢
  exact (World.ownsRow.stored h j u).1
theorem grown_set (w : World) (g j : Nat) (u : Value) : w.grownBy (w.setCell ⟨g, j, none⟩ u) (some g) := grown_put (grown_refl w (some g)) j u
theorem Rw.other {base sz g j n c : Nat} {e : TypeId} {w : World} {v : Value} {xs : List (List Value)} (h : Rw base e sz w v xs) (u : Value) (ha : Ap (.slice (some ⟨g, 0, none⟩) n c) v) : Rw base e sz (w.setCell ⟨g, j, none⟩ u) v xs :=
  h.grown (u := .slice (some ⟨g, 0, none⟩) n c) (grown_set w g j u) ha
theorem Pl.store (h : Pl W w vm vk (.slice (some ⟨gv, 0, none⟩) n c) (.slice (some ⟨gt, 0, none⟩) n' c') M ml i) {L : List Pr} {v5 : Value} (hm : Mine W.heap.size w v5 L) {j : Nat} (hj : j < ml.length) (a b : Value) :
    Mine W.heap.size ((w.setCell ⟨gv, j, none⟩ a).setCell ⟨gt, j, none⟩ b) v5 L ∧ Rw W.heap.size 9 1 ((w.setCell ⟨gv, j, none⟩ a).setCell ⟨gt, j, none⟩ b) vk (ksV ml) ∧ Rw W.heap.size 9 1 ((w.setCell ⟨gv, j, none⟩ a).setCell ⟨gt, j, none⟩ b) (.slice (some ⟨gv, 0, none⟩) n c) ((vsV ml).set j [a]) ∧
      Rw W.heap.size 3 1 ((w.setCell ⟨gv, j, none⟩ a).setCell ⟨gt, j, none⟩ b) (.slice (some ⟨gt, 0, none⟩) n' c') ((tsV ml).set j [b]) ∧ Below W.heap.size W ((w.setCell ⟨gv, j, none⟩ a).setCell ⟨gt, j, none⟩ b) := by
  have lv : j < (vsV ml).length := by unfold vsV; rw [List.length_map]; exact hj
  have lt : j < (tsV ml).length := by unfold tsV; rw [List.length_map]; exact hj
  have hvt : Ap (.slice (some ⟨gv, 0, none⟩) n c) (.slice (some ⟨gt, 0, none⟩) n' c') := ap_types h.v h.t (by decide)
  have hvk : Ap (.slice (some ⟨gv, 0, none⟩) n c) vk := h.kv.symm
  have htk : Ap (.slice (some ⟨gt, 0, none⟩) n' c') vk := ap_types h.t h.k (by decide)
  have hvm : Ap (.slice (some ⟨gv, 0, none⟩) n c) v5 := ap_types h.v hm (by decide)
  have htm : Ap (.slice (some ⟨gt, 0, none⟩) n' c') v5 := ap_types h.t hm (by decide)
  have v1 := h.v.stored (vs_all ml) lv a
  have k1 := h.k.other (j := j) a hvk
  have t1 := h.t.other (j := j) a hvt
  have m1 : Mine W.heap.size (w.setCell ⟨gv, j, none⟩ a) v5 L := World.ownsRow.kept hm (grown_set w gv j a) (by cases hv : v5.ownBlock with
    | none => exact .inl rfl
    | some q => exact .inr fun e => hvm gv rfl (by rw [hv, e]))
  refine ⟨World.ownsRow.kept m1 (grown_set _ gt j b) (by cases hv : v5.ownBlock with
    | none => exact .inl rfl
    | some q => exact .inr fun e => htm gt rfl (by rw [hv, e])), k1.other (j := j) b htk, v1.other (j := j) b hvt.symm, t1.stored (ts_all ml) lt b, ?_⟩
  exact (h.old.setCell (p := ⟨gv, j, none⟩) (h.v.lt gv rfl).1 a).setCell (p := ⟨gt, j, none⟩) (h.t.lt gt rfl).1 b
theorem Pl.num (h : Pl W w vm vk vv vt M ml i) {j : Nat} {p : Pr} (hj : ml[j]? = some p) : 1 ≤ p.n ∧ p.n ≤ i := by
  have := h.ok p (h.pm.mem_iff.2 (List.mem_of_getElem? hj))
  have h1 := this.1
  unfold mayB at h1
  simp at h1
  exact ⟨h1.2.2.2, this.2⟩
/-- Behind the three appends. -/
theorem Pl.put3 (h : Pl W w vm vk vv vt M ml i) (hb : isB M key = false) (hf : ¬ 32 ≤ M.length) (hmay : nilB key = false ∧ key.size ≤ 16 ∧ value.size ≤ 64) {v5 : Value} (hm : Mine W.heap.size w v5 (putP M key value))
    (hk : Rw W.heap.size 9 1 w' vk' (ksV ml ++ [[.string key]])) (hv : Rw W.heap.size 9 1 w' vv' (vsV ml ++ [[.string value]])) (ht : Rw W.heap.size 3 1 w' vt' (tsV ml ++ [[.int .i64 1]])) (ha : Ap vk' vv') (kp : Kp3 vk.ownBlock vv.ownBlock vt.ownBlock w w') :
    Pl W w' v5 vk' vv' vt' (putP M key value) (ml ++ [⟨key, value, 1⟩]) (i + 1) := by
  have hm2 : Mine W.heap.size w' v5 (putP M key value) := by
    rcases hm.2 with ⟨e, h0⟩ | ⟨g, cap, cur, e, h1, h2, h3⟩
    · exact ⟨hm.1, .inl ⟨e, h0⟩⟩
    · have off : ∀ {e' : TypeId} {v : Value} {n : Nat} {xs : List Value}, 29 ≠ e' → w.ownsRow W.heap.size e' 1 v n xs → some g ≠ v.ownBlock := fun hne h' hg => ap_types hm h' hne g (by rw [e]; rfl) hg.symm
      exact ⟨hm.1, .inr ⟨g, cap, cur, e, h1, (kp.block g (Array.getElem?_eq_some_iff.1 h2).1 (off (by decide) h.k) (off (by decide) h.v) (off (by decide) h.t)).trans h2, h3⟩⟩
  refine h.putNew hb (by omega) hmay hm2 (by rw [ks_app]; exact hk) (by rw [vs_app]; exact hv) (by rw [ts_app]; exact ht) ha ?_
  exact kp.below h.old h.old.size (fun g hg => (h.k.lt g hg).1) (fun g hg => (h.v.lt g hg).1) (fun g hg => (h.t.lt g hg).1)
/-- How many of the model's keys the span has. -/
theorem Pl.count (h : Pl W w vm vk vv vt M ml i) (lo hi : ByteArray) : (inP M lo hi).length = (inP ml lo hi).length := (h.pm.filter _).length_eq
end
end Go.Proofs.Ytmcemijipplkgaa
