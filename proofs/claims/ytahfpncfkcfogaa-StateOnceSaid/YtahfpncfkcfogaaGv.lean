/- Bytes of the call's own, one behind the other; a state's bytes' lengths. Conditions: what each call's own says. -/
import Derived.Test.YtahfpncfkcfogaaGt
import Derived.Test.YtahfpncfkcfogaaGy
import Derived.Test.YtahfpncfkcfogaaGh
import Derived.Test.YtahfpncfkcfogaaGk
import Derived.Test.YtahfpncfkcfogaaGu
import Derived.LoopTactic
namespace Go.Proofs.Ytahfpncfkcfogaa
set_option maxRecDepth 100000
open Go.RowKit
/-- A row of the call's own that is these bytes. -/
def By (b : Nat) (w : World) (v : Value) (zs : List Int) : Prop := w.ownsRow b 5 1 v zs.length (cellsOf zs)
def MadeB (w : World) (zs : List Int) (e : Ending) (w' : World) : Prop := ∃ u, e = .returned u ∧ By w.heap.size w' u zs ∧ Below w.heap.size w w'
section
variable {b b' : Nat} {w w' : World} {v : Value} {zs : List Int}
theorem By.nil_ (b : Nat) (w : World) : By b w (.slice none 0 0) [] := ⟨rfl, .inl ⟨rfl, rfl⟩⟩
theorem By.below (h : By b w v zs) (hb : Below w.heap.size w w') : By b w' v zs := by
  unfold By at h ⊢
  exact h.kept (grown_below hb) (by cases v.ownBlock <;> simp)
theorem By.mono (h : By b' w v zs) (hb : b ≤ b') : By b w v zs := by
  refine ⟨h.1, h.2.imp_right ?_⟩
  rintro ⟨g, cap, cur, h1, h2, h3⟩
  exact ⟨g, cap, cur, h1, Nat.le_trans hb h2, h3⟩
theorem By.form (h : By b w v zs) : ∃ A c, v = .slice A zs.length c ∧ (A = none → c = 0) ∧ zs.length ≤ c ∧ c ≤ 9223372036854775807 ∧ Lies w A zs := by
  obtain ⟨A, c, e, hA, hn, hc, _⟩ := own_form h
  subst e
  have hmx : maxLen ≤ 9223372036854775807 := by unfold maxLen; omega
  exact ⟨A, c, rfl, hA, hn, Nat.le_trans hc hmx, Lies.of_own h⟩
theorem By.blk (h : By b w v zs) : ∀ k, v.ownBlock = some k → b ≤ k ∧ k < w.heap.size := fun k e => by
  rcases h.2 with ⟨rfl, _⟩ | ⟨g1, c1, cur1, rfl, hb, h1, _⟩
  · cases e
  · have e : some g1 = some k := e
    cases e
    exact ⟨hb, (Array.getElem?_eq_some_iff.1 h1).1⟩
theorem by_of {w : World} {n : Nat} {zs : List Int} (hn : n = zs.length) {e : Ending} {w' : World} (h : ∃ v, e = .returned v ∧ w'.ownsRow w.heap.size 5 1 v n (cellsOf zs) ∧ Below w.heap.size w w') : MadeB w zs e w' := by
  subst hn
  exact h
theorem bnum (h : By b w v zs) (m : Int) (ln : zs.length ≤ 100000) (m0 : -9223372036854775808 ≤ m) (m1 : m ≤ 9223372036854775807) : Calls Try.prog 83 #[v, .int .i64 m] w (MadeB w (zs ++ num7 m)) := by
  obtain ⟨A, c, rfl, hA, _, _, hl⟩ := h.form
  exact (num_any A _ c zs m w rfl hl hA (by omega) m0 m1).mono fun _ _ z => by_of (by rw [List.length_append]) z
theorem btext (h : By b w v zs) (s : ByteArray) (ln : zs.length ≤ 100000) (hs : s.size ≤ 64) : Calls Try.prog 84 #[v, .string s] w (MadeB w (zs ++ text7 s)) := by
  obtain ⟨A, c, rfl, hA, _, _, hl⟩ := h.form
  exact (text_any A _ c zs s w rfl hl hA (by omega)).mono fun _ _ z => by_of (by rw [List.length_append]) z
theorem bflag (h : By b w v zs) (f : Bool) (ln : zs.length ≤ 100000) : Calls Try.prog 85 #[v, .bool f] w (MadeB w (zs ++ flg7 f)) := by
  obtain ⟨A, c, rfl, hA, _, _, hl⟩ := h.form
  exact (flag_any A _ c zs f w rfl hl hA (by omega)).mono fun _ _ z => by_of (by unfold flg7; rw [List.length_append]; rfl) z
theorem rbnum (h : By b w v zs) (m : Int) (ln : zs.length ≤ 100000) (m0 : -9223372036854775808 ≤ m) (m1 : m ≤ 9223372036854775807) : Calls Try.prog 53 #[v, .int .i64 m] w (MadeB w (zs ++ num7 m)) := by
  obtain ⟨A, c, rfl, hA, _, _, hl⟩ := h.form
  exact (rnum_any A _ c zs m w rfl hl hA (by omega) m0 m1).mono fun _ _ z => by_of (by rw [List.length_append]) z
theorem rbtext (h : By b w v zs) (s : ByteArray) (ln : zs.length ≤ 100000) (hs : s.size ≤ 64) : Calls Try.prog 54 #[v, .string s] w (MadeB w (zs ++ text7 s)) := by
  obtain ⟨A, c, rfl, hA, _, _, hl⟩ := h.form
  exact (rtext_any A _ c zs s w rfl hl hA (by omega)).mono fun _ _ z => by_of (by rw [List.length_append]) z
theorem rbflag (h : By b w v zs) (f : Bool) (ln : zs.length ≤ 100000) : Calls Try.prog 55 #[v, .bool f] w (MadeB w (zs ++ flg7 f)) := by
  obtain ⟨A, c, rfl, hA, _, _, hl⟩ := h.form
  exact (rflag_any A _ c zs f w rfl hl hA (by omega)).mono fun _ _ z => by_of (by unfold flg7; rw [List.length_append]; rfl) z
end
theorem wpList_append_by {w : World} {ops : Array Oper} {rest : List Oper} {o : Oper} {a : Act} {Q : Exit → Act → World → Prop} (hgd : o.guard = none) (s x : Operand)
    (ho : o.op = .call { callee := .builtin .append, args := #[s, x], argTypes := #[49, 49] }) {b b' : Nat} {v u : Value} {xs zs : List Int} (hs : a.eval s = v) (h : By b w v xs) (hx : a.eval x = u) (k : By b' w u zs) (l1 : xs.length ≤ 100000) (l2 : zs.length ≤ 100000) (hbase : b ≤ w.heap.size)
    (hk : ∀ v' w', By b w' v' (xs ++ zs) → Below b w w' → w.grownBy w' v.ownBlock ∨ True → wpList Try.prog ops Q rest (a.put o.dst v') w') : wpList Try.prog ops Q (o :: rest) a w := by
  obtain ⟨i0, hi, hz0, hz1, hz2⟩ := info_parts Try.info5
  obtain ⟨A, c, rfl, hA, _, _, hl⟩ := k.form
  refine wpList_append_lies hgd s x 49 ho b 5 i0 _ (by kernel_rfl) hi hz0 hz1 hz2 rfl v xs.length xs hs h A zs.length c zs hx rfl hA hl (by omega) hbase ?_
  intro v' w' h1 h2
  exact hk v' w' (by unfold By; rw [List.length_append]; exact h1) h2 (.inr trivial)
theorem run_append_by {w : World} (ty : TypeId) {b b' : Nat} {v u : Value} {xs zs : List Int} (h : By b w v xs) (k : By b' w u zs) (l1 : xs.length ≤ 100000) (l2 : zs.length ≤ 100000) (hbase : b ≤ w.heap.size) :
    ∃ v' w', (Builtin.append_ #[49, 49] ty #[v, u]).run Try.prog w = .ok v' w' ∧ By b w' v' (xs ++ zs) ∧ w.grownBy w' v.ownBlock := by
  obtain ⟨i0, hi, hz0, hz1, hz2⟩ := info_parts Try.info5
  have ht : Try.prog.underlying 49 = some (.slice 5) := by kernel_rfl
  obtain ⟨A, c, rfl, hA, _, _, hl⟩ := k.form
  rcases A with _ | ad
  · have h0 := hl.nil_ rfl
    have hz0' : zs = [] := List.eq_nil_of_length_eq_zero h0
    subst hz0'
    obtain rfl := hA rfl
    exact ⟨v, w, run_append_owned_none (P := Try.prog) (w := w) b 49 ty 5 i0 1 ht hi v xs.length (cellsOf xs) h, by rw [List.append_nil]; exact h, ⟨rfl, rfl, rfl, Nat.le_refl _, fun _ _ _ => rfl⟩⟩
  · obtain ⟨v', w', hr, h1, h2, _⟩ := run_append_own_wide (P := Try.prog) w b 49 ty 5 i0 _ 1 1 ht hi hz0 hz1 hz2 rfl (by omega) v xs.length (cellsOf xs) h ad zs.length c (cellsOf zs) (by rw [length_cellsOf]; omega) (by
      intro j y hj
      obtain ⟨hk, _⟩ := cellsOf_some hj
      obtain ⟨g, off, e', _⟩ := hl (by omega)
      injection e' with e'
      subst e'
      exact Lies.cells hl j y hj) cellsOf_one (by unfold maxLen; omega) (by omega) hbase
    exact ⟨v', w', hr, by unfold By; rw [List.length_append, cellsOf_append]; exact h1, h2⟩
theorem step_append_by {w : World} {ops : Array Oper} {o : Oper} {a : Act} {K : Act → World → Prop} {Q : Exit → Act → World → Prop} {E : Prop} (hgd : o.guard = none) (s x : Operand)
    (ho : o.op = .call { callee := .builtin .append, args := #[s, x], argTypes := #[49, 49] }) {b b' : Nat} {v u : Value} {xs zs : List Int} (hs : a.eval s = v) (h : By b w v xs) (hx : a.eval x = u) (k : By b' w u zs) (l1 : xs.length ≤ 100000) (l2 : zs.length ≤ 100000) (hbase : b ≤ w.heap.size)
    (hk : ∀ v' w', By b w' v' (xs ++ zs) → w.grownBy w' v.ownBlock → K (a.put o.dst v') w') : if Region.wanted o (yielded ops a.tmps) = true then Oper.wp Try.prog o a w K Q else E := by
  have hw : Region.wanted o (yielded ops a.tmps) = true := by simp [Region.wanted, hgd]
  rw [if_pos hw]
  obtain ⟨v', w', hr, h2, h3⟩ := run_append_by o.type h k l1 l2 hbase
  unfold Oper.wp execOp
  simp only [ho, resolve, invoke, builtin, Sem.run_bind, Sem.run_pure, Result.andThen_ok, List.map_toArray, List.map_cons, List.map_nil, hs, hx, hr]
  exact hk v' w' h2 h3
/-- Another's block stays. -/
theorem By.other {b g : Nat} {w w' : World} {v : Value} {xs : List Int} {t : TypeId} {cs : Array Value} (h : By b w v xs) (hr : Row w g t cs) (ht : t ≠ 5) (hg : w.grownBy w' v.ownBlock) : Row w' g t cs := hr.grown hg (fun e => by
  rcases h.2 with ⟨rfl, _⟩ | ⟨g1, c1, cur1, rfl, _, h1, _⟩
  · cases e
  · have e : some g = some g1 := e
    cases e
    have hr : w.heap[g]? = some (.cells cs t (0, 0)) := hr
    rw [h1] at hr
    cases hr
    exact ht rfl)
/-! ### Lengths -/
theorem encR_len {p : Pr} (h : mayB p = true) : (encR p).length ≤ 120 := by
  obtain ⟨_, h1, h2, _⟩ := may_says h
  unfold encR
  rw [List.length_append, List.length_append, text7_len, text7_len]
  have a := (num7_len (p.k.size : Int)).2
  have b := (num7_len (p.v.size : Int)).2
  have c := (num7_len p.n).2
  omega
theorem flat_len : ∀ (l : List Pr), (∀ p, p ∈ l → mayB p = true) → (l.flatMap encR).length ≤ 120 * l.length
  | [], _ => Nat.zero_le _
  | p :: l, h => by
    rw [List.flatMap_cons, List.length_append, List.length_cons]
    have := encR_len (h p (List.mem_cons_self ..))
    have := flat_len l (fun q hq => h q (List.mem_cons_of_mem _ hq))
    omega
theorem encP_len {l : List Pr} (h : ∀ p, p ∈ l → mayB p = true) (hl : l.length ≤ 32) : (encP l).length ≤ 4000 := by
  unfold encP
  rw [List.length_append]
  have := flat_len l h
  have := (num7_len (l.length : Int)).2
  omega
theorem encO_len {o : Ow} (h : mayO o = true) : (encO o).length ≤ 5000 := by
  unfold encO
  rw [List.length_append]
  have a := (num7_len o.s).2
  split
  · rw [List.length_nil]; omega
  · rename_i h0
    unfold mayO at h
    rw [if_neg h0] at h
    simp only [Bool.and_eq_true, decide_eq_true_eq] at h
    have hr := h.2.2
    unfold okR at hr
    simp only [Bool.and_eq_true, decide_eq_true_eq] at hr
    obtain ⟨_, hv, _, hl8, hrb⟩ := hr
    have b := (num7_len o.r.why).2
    have c := (num7_len (o.r.val.size : Int)).2
    have d := (num7_len o.r.ver).2
    have e := encP_len (right_may hrb) (by omega)
    have f : (flg7 o.r.fnd).length = 1 := rfl
    rw [List.length_append, List.length_append, List.length_append, List.length_append, text7_len]
    omega
theorem flatO_len : ∀ (l : List Ow), (∀ o, o ∈ l → mayO o = true) → (l.flatMap encO).length ≤ 5000 * l.length
  | [], _ => Nat.zero_le _
  | p :: l, h => by
    rw [List.flatMap_cons, List.length_append, List.length_cons]
    have := encO_len (h p (List.mem_cons_self ..))
    have := flatO_len l (fun q hq => h q (List.mem_cons_of_mem _ hq))
    omega
theorem flat_snoc {α : Type} (f : α → List Int) {l : List α} {k : Nat} {x : α} (h : l[k]? = some x) : (l.take (k + 1)).flatMap f = (l.take k).flatMap f ++ f x := by
  rw [List.take_add_one, h]
  simp
theorem may_ok {o : Ow} (h : mayO o = true) (h0 : o.s ≠ 0) : (o.r.why = 0 ∨ o.r.why = 7) ∧ o.r.val.size ≤ 64 ∧ 0 ≤ o.r.ver ∧ o.r.l.length ≤ 8 ∧ rightB o.r.l = true ∧ 1 ≤ o.s ∧ o.s ≤ 1099511627776 := by
  unfold mayO at h
  rw [if_neg h0] at h
  simp only [Bool.and_eq_true, decide_eq_true_eq] at h
  have hr := h.2.2
  unfold okR at hr
  simp only [Bool.and_eq_true, Bool.or_eq_true, beq_iff_eq, decide_eq_true_eq] at hr
  obtain ⟨a, b, c, d, e⟩ := hr
  exact ⟨a, b, c, d, e, h.1, h.2.1⟩
end Go.Proofs.Ytahfpncfkcfogaa
/- The program's putPairs, putOwner, Put; the document's pairs, PutState. Conditions: the lists lie in memory; their numbers are such as an int holds. -/
namespace Go.Proofs.Ytahfpncfkcfogaa
set_option maxRecDepth 100000
open Go.RowKit
theorem encR_is (p : Pr) : (([] ++ text7 p.k) ++ text7 p.v) ++ num7 p.n = encR p := by unfold encR; simp
set_option maxHeartbeats 8000000 in
theorem putpairs_any (v : Value) (l : List Pr) (w : World) (h : Pin w v l) (hm : ∀ p, p ∈ l → mayB p = true ∧ p.n ≤ 9223372036854775807) (hl : l.length ≤ 32) :
    Calls Try.prog 50 #[v] w (MadeB w (encP l)) := by
  obtain ⟨A, c, rfl, hA, hc, hcc, hz⟩ := h
  have HZ := hide hz
  have HM := hide hm
  have HN1 := hide (bnum (By.nil_ 0 w) (l.length : Int) (Nat.zero_le _) (by omega) (by omega))
  have HFL := hide (fun k => flat_len (l.take k) (fun p hp => (hm p (List.mem_of_mem_take hp)).1))
  have HNL := hide (num7_len (l.length : Int)).2
  clear hz hm
  go_enter Try.func50, Try.ntmps50
  go_upto_region 2 with (go_at_call 83; (with_reducible refine HN1.out.mono ?_); rintro e w1 ⟨u1, rfl, hu1, hb1⟩)
  have HU := hide hu1
  have HB := hide hb1
  clear hu1 hb1 HN1
  rw [List.nil_append] at HU
  go_wp2
  go_loopw [11, 3] (fun i b wr => ∃ k : Nat, k ≤ l.length ∧ i = .int .i64 k ∧ Hid (By w.heap.size wr b (num7 l.length ++ (l.take k).flatMap encR)) ∧ Hid (Below w.heap.size w wr)) (fun i _ _ => l.length - (intOf i).toNat)
  case atStart => exact ⟨0, by omega, rfl, hide (by rw [List.take_zero, List.flatMap_nil, List.append_nil]; exact HU.out), HB⟩
  case round =>
    obtain ⟨k, hk, rfl, HBY, HBR⟩ := hrel
    by_cases hlt : k < l.length
    · obtain ⟨x, hx⟩ : ∃ x, l[k]? = some x := ⟨_, List.getElem?_eq_getElem hlt⟩
      obtain ⟨b1, o1, rfl, hbl, c0, c1, c2⟩ := (HZ.out.below HBR.out).at_ hx
      have hlt' : (k : Int) < (l.length : Int) := by omega
      have HSN := hide (flat_snoc encR hx)
      have hmx := HM.out x (List.mem_of_getElem? hx)
      have HXM := hide (may_says hmx.1)
      have HXN := hide hmx
      have HLP : Hid ((num7 l.length ++ (l.take k).flatMap encR).length ≤ 100000) := hide (by
        have := HFL.out k
        rw [List.length_take] at this
        have := HNL.out
        rw [List.length_append]; omega)
      clear hx hmx
      go_upto_region 5 with (fail)
      have ka := kept_alloc (kept_refl wr) (.cells #[.string x.k, .string x.v, .int .i64 x.n] 47)
      have R5 := hide (Row.new wr 47 #[.string x.k, .string x.v, .int .i64 x.n])
      have HB5 := hide (HBY.out.below ka)
      have HR5 := hide (kept_trans HBR.out ka)
      clear ka c0 c1 c2 HBY HBR
      generalize wr.alloc (.cells #[.string x.k, .string x.v, .int .i64 x.n] 47) = w5 at R5 HB5 HR5 ⊢
      generalize wr.heap.size = g5 at R5 ⊢
      refine wp_region_noPanic ?_
      refine wp_region_T 11 (fun w' => Row w' g5 47 #[.string x.k, .string x.v, .int .i64 x.n]) (by kernel_rfl) ?_
      have HD := hide (show Row (World.drew w5) g5 47 #[.string x.k, .string x.v, .int .i64 x.n] ∧ By w.heap.size (World.drew w5) u3 (num7 l.length ++ (l.take k).flatMap encR) ∧ Below w.heap.size w (World.drew w5) from ⟨R5.out.drew, HB5.out.below (kept_drewN (kept_refl w5) 1), kept_drewN HR5.out 1⟩)
      generalize World.drew _ = wd at HD ⊢
      refine anyT_take (i := 0) (v := ?ov0_p) (by simp only [List.getElem?_toArray, List.getElem?_cons_zero]; exact rfl) (by kernel_rfl) (by kernel_rfl) (fun _ _ _ h => h) (by kernel_rfl) (by kernel_rfl) (Or.inl ⟨by rfl, ?oy0_p⟩) (by with_reducible exact HD.out.1) ?or0_p
      case oy0_p => (intro w hSw; skip; go_simp; try with_reducible rfl)
      try simp only [Act.put, List.setIfInBounds_toArray, List.set_cons_zero, List.set_cons_succ]
      refine anyT_take (i := 1) (v := ?ov1_p) (by simp only [List.getElem?_toArray, List.getElem?_cons_succ, List.getElem?_cons_zero]; exact rfl) (by kernel_rfl) (by kernel_rfl) (fun _ _ _ h => h) (by kernel_rfl) (by kernel_rfl) (Or.inl ⟨by rfl, ?oy1_p⟩) (by with_reducible exact HD.out.1) ?or1_p
      case oy1_p => (intro w hSw; skip; go_simp; try with_reducible rfl)
      try simp only [Act.put, List.setIfInBounds_toArray, List.set_cons_zero, List.set_cons_succ]
      refine anyT_take (i := 2) (v := ?ov2_p) (by simp only [List.getElem?_toArray, List.getElem?_cons_succ, List.getElem?_cons_zero]; exact rfl) (by kernel_rfl) (by kernel_rfl) (fun _ _ _ h => h) (by kernel_rfl) (by kernel_rfl) (Or.inl ⟨by rfl, ?oy2_p⟩) (by with_reducible exact HD.out.1) ?or2_p
      case oy2_p => (intro w hSw; obtain ⟨c0, c1, c2⟩ := hSw.three; go_simp; try with_reducible rfl)
      try simp only [Act.put, List.setIfInBounds_toArray, List.set_cons_zero, List.set_cons_succ]
      refine anyT_take (i := 4) (v := ?ov4_p) (by simp only [List.getElem?_toArray, List.getElem?_cons_succ, List.getElem?_cons_zero]; exact rfl) (by kernel_rfl) (by kernel_rfl) (fun _ _ _ h => h) (by kernel_rfl) (by kernel_rfl) (Or.inl ⟨by rfl, ?oy4_p⟩) (by with_reducible exact HD.out.1) ?or4_p
      case oy4_p => (intro w hSw; skip; go_simp; try with_reducible rfl)
      try simp only [Act.put, List.setIfInBounds_toArray, List.set_cons_zero, List.set_cons_succ]
      refine anyT_take (i := 5) (v := ?ov5_p) (by simp only [List.getElem?_toArray, List.getElem?_cons_succ, List.getElem?_cons_zero]; exact rfl) (by kernel_rfl) (by kernel_rfl) (fun _ _ _ h => h) (by kernel_rfl) (by kernel_rfl) (Or.inl ⟨by rfl, ?oy5_p⟩) (by with_reducible exact HD.out.1) ?or5_p
      case oy5_p => (intro w hSw; obtain ⟨c0, c1, c2⟩ := hSw.three; go_simp; try with_reducible rfl)
      try simp only [Act.put, List.setIfInBounds_toArray, List.set_cons_zero, List.set_cons_succ]
      refine anyT_take (i := 7) (v := ?ov7_p) (by simp only [List.getElem?_toArray, List.getElem?_cons_succ, List.getElem?_cons_zero]; exact rfl) (by kernel_rfl) (by kernel_rfl) (fun _ _ _ h => h) (by kernel_rfl) (by kernel_rfl) (Or.inl ⟨by rfl, ?oy7_p⟩) (by with_reducible exact HD.out.1) ?or7_p
      case oy7_p => (intro w hSw; skip; go_simp; try with_reducible rfl)
      try simp only [Act.put, List.setIfInBounds_toArray, List.set_cons_zero, List.set_cons_succ]
      refine anyT_take (i := 8) (v := ?ov8_p) (by simp only [List.getElem?_toArray, List.getElem?_cons_succ, List.getElem?_cons_zero]; exact rfl) (by kernel_rfl) (by kernel_rfl) (fun _ _ _ h => h) (by kernel_rfl) (by kernel_rfl) (Or.inl ⟨by rfl, ?oy8_p⟩) (by with_reducible exact HD.out.1) ?or8_p
      case oy8_p => (intro w hSw; obtain ⟨c0, c1, c2⟩ := hSw.three; go_simp; try with_reducible rfl)
      try simp only [Act.put, List.setIfInBounds_toArray, List.set_cons_zero, List.set_cons_succ]
      refine anyT_one (i := 3) (by kernel_rfl) (by simp only [List.getElem?_toArray, List.getElem?_cons_succ, List.getElem?_cons_zero]; exact rfl) (fun K hK => ?_)
      try go_simp
      refine (btext (By.nil_ 0 wd) x.k (Nat.zero_le _) (by have := HXM.out.2.1; omega)).mono ?_
      rintro e w6 ⟨y6, rfl, hy, hb⟩
      have HD6 := hide (show Row w6 g5 47 #[.string x.k, .string x.v, .int .i64 x.n] ∧ By w.heap.size w6 u3 (num7 l.length ++ (l.take k).flatMap encR) ∧ Below w.heap.size w w6 from ⟨HD.out.1.below hb HD.out.1.lt, HD.out.2.1.below hb, kept_trans HD.out.2.2 hb⟩)
      have HY6 := hide hy
      have HYL6 := hide (show ([] ++ text7 x.k).length ≤ 400 from by rw [List.nil_append, text7_len]; have a1 := (num7_len (x.k.size : Int)).2; have a2 := (num7_len (x.v.size : Int)).2; have a3 := (num7_len x.n).2; have := HXM.out.2.1; have := HXM.out.2.2.1; omega)
      clear hy hb
      refine hK.out _ _ (fun e => HD6.out.1) ?_
      clear hK K
      try simp only [Act.put, List.setIfInBounds_toArray, List.set_cons_zero, List.set_cons_succ]
      refine anyT_one (i := 6) (by kernel_rfl) (by simp only [List.getElem?_toArray, List.getElem?_cons_succ, List.getElem?_cons_zero]; exact rfl) (fun K hK => ?_)
      try go_simp
      refine (btext HY6.out x.v (by have := HYL6.out; omega) HXM.out.2.2.1).mono ?_
      rintro e w7 ⟨y7, rfl, hy, hb⟩
      have HD7 := hide (show Row w7 g5 47 #[.string x.k, .string x.v, .int .i64 x.n] ∧ By w.heap.size w7 u3 (num7 l.length ++ (l.take k).flatMap encR) ∧ Below w.heap.size w w7 from ⟨HD6.out.1.below hb HD6.out.1.lt, HD6.out.2.1.below hb, kept_trans HD6.out.2.2 hb⟩)
      have HY7 := hide hy
      have HYL7 := hide (show (([] ++ text7 x.k) ++ text7 x.v).length ≤ 400 from by rw [List.nil_append, List.length_append, text7_len, text7_len]; have a1 := (num7_len (x.k.size : Int)).2; have a2 := (num7_len (x.v.size : Int)).2; have a3 := (num7_len x.n).2; have := HXM.out.2.1; have := HXM.out.2.2.1; omega)
      clear hy hb
      refine hK.out _ _ (fun e => HD7.out.1) ?_
      clear hK K
      try simp only [Act.put, List.setIfInBounds_toArray, List.set_cons_zero, List.set_cons_succ]
      refine anyT_one (i := 9) (by kernel_rfl) (by simp only [List.getElem?_toArray, List.getElem?_cons_succ, List.getElem?_cons_zero]; exact rfl) (fun K hK => ?_)
      try go_simp
      refine (bnum HY7.out x.n (by have := HYL7.out; omega) (by have := HXM.out.2.2.2; omega) HXN.out.2).mono ?_
      rintro e w8 ⟨y8, rfl, hy, hb⟩
      have HD8 := hide (show Row w8 g5 47 #[.string x.k, .string x.v, .int .i64 x.n] ∧ By w.heap.size w8 u3 (num7 l.length ++ (l.take k).flatMap encR) ∧ Below w.heap.size w w8 from ⟨HD7.out.1.below hb HD7.out.1.lt, HD7.out.2.1.below hb, kept_trans HD7.out.2.2 hb⟩)
      have HY8 := hide hy
      have HYL8 := hide (show ((([] ++ text7 x.k) ++ text7 x.v) ++ num7 x.n).length ≤ 400 from by rw [List.nil_append, List.length_append, List.length_append, text7_len, text7_len]; have a1 := (num7_len (x.k.size : Int)).2; have a2 := (num7_len (x.v.size : Int)).2; have a3 := (num7_len x.n).2; have := HXM.out.2.1; have := HXM.out.2.2.1; omega)
      clear hy hb
      refine hK.out _ _ (fun e => HD8.out.1) ?_
      clear hK K
      try simp only [Act.put, List.setIfInBounds_toArray, List.set_cons_zero, List.set_cons_succ]
      refine anyT_one (i := 10) (by kernel_rfl) (by simp only [List.getElem?_toArray, List.getElem?_cons_succ, List.getElem?_cons_zero]; exact rfl) (fun K hK => ?_)
      refine step_append_by rfl (.tmp 15) (.tmp 24) rfl (by rfl) HD8.out.2.1 (by rfl) HY8.out HLP.out (by have := HYL8.out; omega) HD8.out.2.2.size ?_
      intro v9 w9 hv9 hb9
      have HE9 := hide (show By w.heap.size w9 v9 (num7 l.length ++ (l.take (k + 1)).flatMap encR) from by rw [HSN.out, ← List.append_assoc, ← encR_is]; exact hv9)
      have R9 := hide (HD8.out.2.1.other HD8.out.1 (by decide) hb9)
      have HB9 := hide (HD8.out.2.2.grown hb9 HD8.out.2.2.size (fun k hk => (HD8.out.2.1.blk k hk).1))
      clear hv9 hb9
      refine hK.out _ _ (fun e => R9.out) ?_
      clear hK K
      try simp only [Act.put]
      refine anyT_one (i := 11) (by kernel_rfl) (by simp only [List.getElem?_toArray, List.getElem?_cons_succ, List.getElem?_cons_zero]; exact rfl) (fun K hK => ?_)
      try go_simp
      refine hK.out _ _ (fun e => absurd rfl e) ?_
      clear hK K
      refine anyT_done (by kernel_rfl) ?_
      refine NoPanic.normal ?_
      try simp only [Act.put]
      go_wp2_with fail
      go_roundw
      case rel => exact ⟨k + 1, by omega, by go_num, HE9, HB9⟩
      case measure => simp [intOf]; omega
    · obtain rfl : k = l.length := by omega
      have HE : Hid (num7 l.length ++ (l.take l.length).flatMap encR = encP l) := hide (by rw [List.take_length]; rfl)
      go_wp2
      go_ret
      exact ⟨_, rfl, by rw [← HE.out]; exact HBY.out, HBR.out⟩
end Go.Proofs.Ytahfpncfkcfogaa
