/- What package kv's Range comes to, and the document's. Conditions: the list lies in memory, its length has room. -/
import Derived.Test.YtmcemijipplkgaaRi
import Derived.Test.YtmcemijipplkgaaRef
namespace Go.Proofs.Ytmcemijipplkgaa
open Go.RowKit
theorem Mine.below {base : Nat} {w w' : World} {v : Value} {l : List Pr} (h : Mine base w v l) (hb : Below w.heap.size w w') : Mine base w' v l :=
  World.ownsRow.kept h (grown_below hb) (by cases hv : v.ownBlock with
    | none => exact .inl rfl
    | some g => exact .inr (by simp))
theorem inP_next {l : List Pr} {k : Nat} {p : Pr} (lo hi : ByteArray) (h : l[k]? = some p) : inP (l.take (k + 1)) lo hi = inP (l.take k) lo hi ++ (if hasB lo hi p.k = true then [p] else []) := by
  unfold inP
  rw [List.take_add_one, h, List.filter_append]
  congr 1
  by_cases hx : hasB lo hi p.k = true
  · simp [hx]
  · simp [hx]
theorem inP_yes {l : List Pr} {k : Nat} {p : Pr} {lo hi : ByteArray} (h : l[k]? = some p) (hx : hasB lo hi p.k = true) : inP (l.take (k + 1)) lo hi = inP (l.take k) lo hi ++ [p] := by rw [inP_next lo hi h, if_pos hx]
theorem inP_no {l : List Pr} {k : Nat} {p : Pr} {lo hi : ByteArray} (h : l[k]? = some p) (hx : hasB lo hi p.k = false) : inP (l.take (k + 1)) lo hi = inP (l.take k) lo hi := by rw [inP_next lo hi h, if_neg (by rw [hx]; simp), List.append_nil]
theorem inP_cut (l : List Pr) (k : Nat) (lo hi : ByteArray) : inP l lo hi = inP (l.take k) lo hi ++ inP (l.drop k) lo hi := by
  unfold inP; rw [← List.filter_append, List.take_append_drop]
theorem rng_full {l : List Pr} {k : Nat} {p : Pr} {lo hi : ByteArray} (h : l[k]? = some p) (hx : hasB lo hi p.k = true) (h8 : (inP (l.take k) lo hi).length = 8) : rngP l lo hi = inP (l.take k) lo hi ∧ moreB l lo hi = true := by
  have hlt : k < l.length := by
    rcases Nat.lt_or_ge k l.length with h1 | h1
    · exact h1
    · rw [List.getElem?_eq_none h1] at h; cases h
  have hd : (inP (l.drop k) lo hi).length ≠ 0 := by
    rw [List.drop_eq_getElem_cons hlt]
    rw [List.getElem?_eq_getElem hlt] at h
    injection h with h
    rw [h]
    unfold inP
    rw [List.filter_cons, if_pos hx]; simp
  constructor
  · unfold rngP; rw [inP_cut l k, ← h8, List.take_left]
  · unfold moreB; rw [inP_cut l k, List.length_append, h8]; exact decide_eq_true (by omega)
theorem rng_end {l : List Pr} {lo hi : ByteArray} (h8 : (inP l lo hi).length ≤ 8) : rngP l lo hi = inP l lo hi ∧ moreB l lo hi = false :=
  ⟨by unfold rngP; exact List.take_of_length_le h8, by unfold moreB; exact decide_eq_false (by omega)⟩
/-- append of pairs that lie onto own ones. -/
theorem wpList_append_mine {ops : Array Oper} {rest : List Oper} {o : Oper} {a : Act} {Q : Exit → Act → World → Prop} {w : World} (hgd : o.guard = none) (s x : Operand)
    (ho : o.op = .call { callee := .builtin .append, args := #[s, x], argTypes := #[22, 22] })
    {base : Nat} {v : Value} {l zs : List Pr} (hs : a.eval s = v) (hown : Mine base w v l) (A : Option Addr) (m c : Nat) (hx : a.eval x = .slice A m c) (hm : zs.length = m) (hc : A = none → c = 0) (hl : Prs w A zs) (hb : l.length + m ≤ 3518437208883) (hbase : base ≤ w.heap.size)
    (h : ∀ v' w', Mine base w' v' (l ++ zs) → w.grownBy w' v.ownBlock → wpList Try.prog ops Q rest (a.put o.dst v') w') : wpList Try.prog ops Q (o :: rest) a w := by
  obtain ⟨i0, hi, hz0, hz1, hz2⟩ := pair_parts
  refine wpList_append_els hgd s x 22 ho base 29 i0 _ 40 under_pairs hi hz0 hz1 hz2 (by omega) rfl v l.length (prV l) hs hown A m c (prV zs) hx (prV_all _) ((prV_len _).trans hm) hc hl (by omega) (by omega) hbase ?_
  intro v' w' h1 h2
  refine h v' w' ?_ h2
  unfold Mine
  rw [List.length_append, hm, prV_append]
  exact h1
/-- What a round of Range knows. -/
structure Rg (W w : World) (v : Value) (l : List Pr) (lo hi : ByteArray) (k : Nat) : Prop where
  own : Mine W.heap.size w v (inP (l.take k) lo hi)
  few : (inP (l.take k) lo hi).length ≤ 8
  old : Below W.heap.size W w
theorem Rg.start (W : World) (l : List Pr) (lo hi : ByteArray) : Rg W W (.slice none 0 0) l lo hi 0 := ⟨Mine.nil_ _ _, Nat.zero_le _, Below.refl _ _⟩
theorem Rg.step {W w w' : World} {v : Value} {l : List Pr} {lo hi : ByteArray} {k : Nat} (h : Rg W w v l lo hi k) (hb : Below w.heap.size w w') : Rg W w' v l lo hi k := ⟨h.own.below hb, h.few, h.old.trans (hb.mono h.old.size)⟩
theorem Rg.skip {W w : World} {v : Value} {l : List Pr} {lo hi : ByteArray} {k : Nat} {p : Pr} (h : Rg W w v l lo hi k) (hp : l[k]? = some p) (hx : hasB lo hi p.k = false) : Rg W w v l lo hi (k + 1) := ⟨by rw [inP_no hp hx]; exact h.own, by rw [inP_no hp hx]; exact h.few, h.old⟩
theorem Rg.form {W w : World} {v : Value} {l : List Pr} {lo hi : ByteArray} {k : Nat} (h : Rg W w v l lo hi k) : ∃ A c n, v = .slice A n c ∧ n = (inP (l.take k) lo hi).length ∧ n ≤ 8 := by
  obtain ⟨A, c, e, _⟩ := own_form h.own
  exact ⟨A, c, _, e, rfl, h.few⟩
set_option maxRecDepth 100000 in
set_option maxHeartbeats 2000000 in
theorem range_any (v : Value) (l : List Pr) (lo hi : ByteArray) (w : World) (h : Pin w v l) (ln : l.length ≤ 4611686018427387904) :
    Calls Try.prog 12 #[v, .agg #[.string lo, .string hi]] w (Ans w (rngP l lo hi) (.bool (moreB l lo hi))) := by
  obtain ⟨A, c, rfl, hA, hc, hcc, hl⟩ := h
  have HL := hide hl
  clear hl
  go_enter Try.func12, Try.ntmps12
  go_upto_region 1 with (fail)
  have TW := hide (Two.new w lo hi 35)
  have HB1 := hide (kept_alloc (kept_refl w) (.cells #[.string lo, .string hi] 35))
  have HL1 := hide (HL.out.alloc (.cells #[.string lo, .string hi] 35))
  clear HL
  generalize w.alloc (.cells #[.string lo, .string hi] 35) = w1 at TW HB1 HL1 ⊢
  generalize w.heap.size = g0 at TW ⊢
  go_wp2
  go_loopw [6, 11] (fun v i wr => ∃ (k n c' : Nat) (A' : Option Addr), k ≤ l.length ∧ i = .int .i64 k ∧ v = .slice A' n c' ∧ n ≤ 8 ∧ Hid ((inP (l.take k) lo hi).length = n) ∧ Hid (Rg w1 wr (.slice A' n c') l lo hi k)) (fun _ i _ => l.length - (intOf i).toNat)
  case atStart => exact ⟨0, 0, 0, none, by omega, rfl, rfl, by omega, rfl, Rg.start _ _ _ _⟩
  case round =>
    obtain ⟨k, n, c', A', hk, rfl, rfl, hn8, HN, R⟩ := hrel
    by_cases hlt : k < l.length
    · obtain ⟨p, hp⟩ : ∃ p, l[k]? = some p := ⟨_, List.getElem?_eq_getElem hlt⟩
      obtain ⟨b, o, rfl, hbs, c0, c1, c2⟩ := (HL1.out.below R.out.old).at_ hp
      have HP := hide hp
      clear hp
      go_upto_region 5 with (fail)
      have RW := hide (Row.new wr 29 #[.string p.k, .string p.v, .int .i64 p.n])
      have HB2 := kept_alloc (kept_refl wr) (.cells #[.string p.k, .string p.v, .int .i64 p.n] 29)
      have R2 := hide (R.out.step HB2)
      generalize wr.alloc (.cells #[.string p.k, .string p.v, .int .i64 p.n] 29) = w2 at RW R2 ⊢
      generalize wr.heap.size = g2 at RW ⊢
      clear HB2 R c0 c1 c2 hbs
      have TW2 := TW.out.kept R2.out.old
      obtain ⟨s0, s1⟩ : _ ∧ _ := ⟨TW2.c0, TW2.c1⟩
      obtain ⟨r0, r1, r2⟩ := RW.out.three
      clear TW2
      have HH := hide (has_any lo hi p.k w2)
      cases ht : hasB lo hi p.k
      · rw [ht] at HH
        have R4 := hide (R2.out.skip HP.out ht)
        have N4 : Hid ((inP (l.take (k + 1)) lo hi).length = n) := hide (by rw [inP_no HP.out ht]; exact HN.out)
        clear ht
        go_wp2_with (go_at_call 23; (with_reducible refine HH.out.mono ?_); rintro e w3 ⟨rfl, hb3⟩; have R3 := hide (R4.out.step hb3); clear hb3)
        go_roundw
        case rel => exact ⟨k + 1, n, c', A', by omega, by go_num, rfl, hn8, N4, R3⟩
        case measure => simp [intOf]; omega
      · rw [ht] at HH
        by_cases h8 : n = 8
        · subst h8
          have HE := hide (rng_full HP.out ht HN.out)
          clear ht
          go_wp2_with (go_at_call 23; (with_reducible refine HH.out.mono ?_); rintro e w3 ⟨rfl, hb3⟩; have R3 := hide (R2.out.step hb3); clear hb3)
          go_ret2
          exact ⟨_, by rw [HE.out.2]; rfl, by rw [HE.out.1]; exact R3.out.own.mono HB1.out.size, kept_trans HB1.out R3.out.old⟩
        · have h8' : ((n : Int) == 8) = false := by simp; omega
          have HX := hide (inP_yes HP.out ht)
          clear ht
          go_upto_region 8 with (go_at_call 23; (with_reducible refine HH.out.mono ?_); rintro e w3 ⟨rfl, hb3⟩; have R3 := hide (R2.out.step hb3); have RW3 := hide (RW.out.below hb3 RW.out.lt); clear hb3)
          obtain ⟨r0, r1, r2⟩ := RW3.out.three
          clear RW RW3 R2 HH s0 s1
          have PO := hide (prs_one w3 p 29)
          have R5 := hide (R3.out.step (kept_alloc (kept_refl w3) (.cells #[.string p.k, .string p.v, .int .i64 p.n] 29)))
          have hsz := R5.out.old.size
          go_wp2_with (at_builtin; refine wpList_append_mine rfl (.tmp 24) (.tmp 26) rfl rfl R5.out.own _ 1 1 rfl rfl (fun h => by cases h) PO.out (by rw [HN.out]; omega) hsz ?_; intro v4 w4 ho4 hb4)
          have R6 := hide (show Rg w1 w4 v4 l lo hi (k + 1) from ⟨by rw [HX.out]; exact ho4, by rw [HX.out, List.length_append, HN.out]; simp; omega, R5.out.old.grown hb4 hsz (fun k hk => (R5.out.own.lt k hk))⟩)
          clear ho4 hb4
          obtain ⟨A5, c5, n5, rfl, hn5, hn58⟩ := R6.out.form
          go_roundw
          case rel => exact ⟨k + 1, n5, c5, A5, by omega, by go_num, rfl, hn58, hn5.symm, R6⟩
          case measure => simp [intOf]; omega
    · obtain rfl : k = l.length := by omega
      have e0 : inP (l.take l.length) lo hi = inP l lo hi := by rw [List.take_length]
      have HE := hide (rng_end (l := l) (lo := lo) (hi := hi) (by rw [← e0]; exact R.out.few))
      have HO : Hid (Mine w1.heap.size wr (.slice A' n c') (inP l lo hi)) := hide (by rw [← e0]; exact R.out.own)
      clear e0
      go_wp2
      go_ret2
      exact ⟨_, by rw [HE.out.2]; rfl, by rw [HE.out.1]; exact HO.out.mono HB1.out.size, kept_trans HB1.out R.out.old⟩
end Go.Proofs.Ytmcemijipplkgaa
