/- What the functions of package span come to. No condition. -/
import Derived.Test.YtahfpncfkcfogaaRows
import Derived.Test.YtahfpncfkcfogaaGa
import Derived.WalkKit
import Derived.WalkSpells
import Derived.WalkLawsBesides
import Derived.BigQuiet
import Derived.Deep.QuietTactic
import Derived.Test.YtahfpncfkcfogaaGb
import Derived.Deep.RegionHeld3
import Derived.Deep.Slices
import Derived.Deep.Fields
import Derived.ChangeSame
namespace Go.Proofs.Ytahfpncfkcfogaa
open Go.RowKit
/-- Block g holds a span. -/
structure Two (w : World) (g : Nat) (x y : ByteArray) : Prop where
  c0 : w.cell? ⟨g, 0, none⟩ = some (.string x)
  c1 : w.cell? ⟨g, 1, none⟩ = some (.string y)
  lt : g < w.heap.size
theorem Two.kept {w w' : World} {g : Nat} {x y : ByteArray} (h : Two w g x y) (hb : Below w.heap.size w w') : Two w' g x y :=
  ⟨(hb.cell (p := ⟨g, 0, none⟩) h.lt).trans h.c0, (hb.cell (p := ⟨g, 1, none⟩) h.lt).trans h.c1, Nat.lt_of_lt_of_le h.lt hb.size⟩
theorem Two.drew {w : World} {g : Nat} {x y : ByteArray} (h : Two w g x y) : Two w.drew g x y := ⟨h.c0, h.c1, h.lt⟩
theorem Two.new (w : World) (x y : ByteArray) (t : TypeId) : Two (w.alloc (.cells #[.string x, .string y] t)) w.heap.size x y :=
  ⟨by simp [World.cell?_alloc_new], by simp [World.cell?_alloc_new], by simp⟩
/-- Three spans lie in the call's own memory, and what was there is as it was. -/
structure St (W w : World) (k l m : Nat) (a b c d e f : ByteArray) : Prop where
  one : Two w k a b
  two : Two w l c d
  three : Two w m e f
  old : Below W.heap.size W w
section
variable {W w w' : World} {k l m : Nat} {a b c d e f : ByteArray}
theorem St.drew (h : St W w k l m a b c d e f) : St W w.drew k l m a b c d e f := ⟨h.one.drew, h.two.drew, h.three.drew, h.old.drew⟩
theorem St.step (h : St W w k l m a b c d e f) (g : Below w.heap.size w w') : St W w' k l m a b c d e f := ⟨h.one.kept g, h.two.kept g, h.three.kept g, h.old.trans (g.mono h.old.size)⟩
/-- A call that makes memory leaves the spans. -/
theorem St.call {P : Program} {F : FuncId} {args : Array Value} {v : Value} (h : St W w k l m a b c d e f) (hf : Calls P F args w fun x w' => x = .returned v ∧ Below w.heap.size w w') :
    Calls P F args w fun x w' => x = .returned v ∧ w'.cell? ⟨k, 0, none⟩ = some (.string a) ∧ w'.cell? ⟨k, 1, none⟩ = some (.string b) ∧ w'.cell? ⟨l, 0, none⟩ = some (.string c) ∧ w'.cell? ⟨l, 1, none⟩ = some (.string d) ∧
      w'.cell? ⟨m, 0, none⟩ = some (.string e) ∧ w'.cell? ⟨m, 1, none⟩ = some (.string f) ∧ St W w' k l m a b c d e f :=
  hf.mono fun _ _ ⟨he, hb⟩ => have g := h.step hb; ⟨he, g.one.c0, g.one.c1, g.two.c0, g.two.c1, g.three.c0, g.three.c1, g⟩
end
theorem old_call {P : Program} {F : FuncId} {args : Array Value} {v : Value} {W w : World} (h : Below W.heap.size W w) (hf : Calls P F args w fun x w' => x = .returned v ∧ Below w.heap.size w w') :
    Calls P F args w fun x w' => x = .returned v ∧ Below W.heap.size W w' := hf.mono fun _ _ ⟨he, hb⟩ => ⟨he, h.trans (hb.mono h.size)⟩
/-- Two spans that were just laid. -/
theorem St.start (W : World) (a b c d : ByteArray) (t : TypeId) : St W ((W.alloc (.cells #[.string a, .string b] t)).alloc (.cells #[.string c, .string d] t)) W.heap.size (W.heap.size + 1) (W.heap.size + 1) a b c d c d := by
  have h1 := (Two.new W a b t).kept ((Below.refl _ _).alloc (Nat.le_refl _) (.cells #[.string c, .string d] t))
  have h2 := Two.new (W.alloc (.cells #[.string a, .string b] t)) c d t
  simp only [World.size_alloc] at h2
  exact ⟨h1, h2, h2, ((Below.refl _ _).alloc (Nat.le_refl _) _).alloc (by simp) _⟩
theorem spanin_any (k h : ByteArray) (w : World) :
    Calls Try.prog 98 #[.string k, .string h] w fun e w' => e = .returned (.bool (inB k h)) ∧ w = w' := by
  go_enter Try.func98, Try.ntmps98
  go_wp2
  all_goals go_ret
  all_goals exact ⟨ret_bool (by simp [inB, nilB, ltB, *]), rfl⟩
theorem of_any (k : ByteArray) (w : World) (hk : k.size ≤ 140737488355328) :
    Calls Try.prog 96 #[.string k] w fun e w' => e = .returned (.agg #[.string k, .string (nextT k)]) ∧ Below w.heap.size w w' := by
  have hl : ¬ (k.size + 1 > 9223372036854775807) := by omega
  go_enter Try.func96, Try.ntmps96
  go_wp2
  exact bodyPost_ret (v := .agg #[.string k, .string (nextT k)]) (by simp [results, Try.results96, go_sem, nextT]) rfl ⟨rfl, (Below.refl _ _).alloc (Nat.le_refl _) _⟩
theorem empty_any (lo hi : ByteArray) (w : World) :
    Calls Try.prog 97 #[.agg #[.string lo, .string hi]] w fun e w' => e = .returned (.bool (emB lo hi)) ∧ Below w.heap.size w w' := by
  go_enter Try.func97, Try.ntmps97
  go_wp2_with (go_at_call 98; refine (spanin_any _ _ _).mono ?_; rintro e w' ⟨rfl, rfl⟩)
  go_ret
  exact ⟨rfl, (Below.refl _ _).alloc (Nat.le_refl _) _⟩
theorem has_any (lo hi k : ByteArray) (w : World) :
    Calls Try.prog 101 #[.agg #[.string lo, .string hi], .string k] w fun e w' => e = .returned (.bool (hasB lo hi k)) ∧ Below w.heap.size w w' := by
  cases hx : ltB k lo
  all_goals
    have h1 := hx
    unfold ltB at h1
    have HX := hide hx
    clear hx
    go_enter Try.func101, Try.ntmps101
    go_wp2_with (go_at_call 98; refine (spanin_any _ _ _).mono ?_; rintro e w' ⟨rfl, rfl⟩)
    go_ret
    exact ⟨ret_bool (by simp [hasB, HX.out]), (Below.refl _ _).alloc (Nat.le_refl _) _⟩
set_option maxHeartbeats 1000000 in
theorem meets_any (la ha lb hb : ByteArray) (w : World) :
    Calls Try.prog 71 #[.agg #[.string la, .string ha], .agg #[.string lb, .string hb]] w fun e w' => e = .returned (.bool (meetB la ha lb hb)) ∧ Below w.heap.size w w' := by
  have hs := hide (St.start w la ha lb hb 72)
  go_enter Try.func71, Try.ntmps71
  go_wp2_with (first
    | (go_at_call 98; (with_reducible refine (spanin_any _ _ _).mono ?_); rintro e w' ⟨rfl, rfl⟩)
    | (go_at_call 97; (with_reducible refine (hs.out.call (empty_any _ _ _)).mono ?_); rintro e w' ⟨rfl, q0, q1, q2, q3, _, _, st⟩)
    | (go_at_call 97; (with_reducible refine (St.call (by with_reducible assumption) (empty_any _ _ _)).mono ?_); rintro e w' ⟨rfl, q0, q1, q2, q3, _, _, st⟩))
  all_goals go_ret
  all_goals exact ⟨ret_bool (by simp [meetB, *]), st.old⟩
end Go.Proofs.Ytahfpncfkcfogaa
/- What the document's own spans come to. No condition. -/
namespace Go.Proofs.Ytahfpncfkcfogaa
open Go.RowKit
theorem rhas_any (lo hi k : ByteArray) (w : World) :
    Calls Try.prog 69 #[.agg #[.string lo, .string hi], .string k] w fun e w' => e = .returned (.bool (rhasB lo hi k)) ∧ Below w.heap.size w w' := by
  go_enter Try.func69, Try.ntmps69
  go_wp2
  all_goals go_ret
  all_goals exact ⟨ret_bool (by simp [rhasB, nilB, ltB, *]), (Below.refl _ _).alloc (Nat.le_refl _) _⟩
end Go.Proofs.Ytahfpncfkcfogaa
/- What the functions of package span come to. No condition. -/
namespace Go.Proofs.Ytahfpncfkcfogaa
open Go.RowKit
section
variable {W w w' : World} {k l m : Nat} {a b c d e f : ByteArray}
end
end Go.Proofs.Ytahfpncfkcfogaa
/- What the document's own spans come to. No condition. -/
namespace Go.Proofs.Ytahfpncfkcfogaa
open Go.RowKit
end Go.Proofs.Ytahfpncfkcfogaa
/- What package kv's Range comes to, and the document's. Conditions: the list lies in memory, its length has room. -/
namespace Go.Proofs.Ytahfpncfkcfogaa
open Go.RowKit
theorem Mine.below {base : Nat} {w w' : World} {v : Value} {l : List Pr} (h : Mine base w v l) (hb : Below w.heap.size w w') : Mine base w' v l :=
  World.ownsRow.kept h (grown_below hb) (by cases hv : v.ownBlock with
    | none => exact .inl rfl
    | some g => exact .inr (by simp))
theorem inP_next {l : List Pr} {k : Nat} {p : Pr} (lo hi : ByteArray) (h : l[k]? = some p) : inP (l.take (k + 1)) lo hi = inP (l.take k) lo hi ++ (if hasB lo hi p.k = true then [p] else []) := by
  unfold inP
  rw [List.take_add_one, h, List.filter_append]
  congr 1
  by_cases hx : hasB lo hi p.k = true
  · simp [hx]
  · simp [hx]
theorem inP_yes {l : List Pr} {k : Nat} {p : Pr} {lo hi : ByteArray} (h : l[k]? = some p) (hx : hasB lo hi p.k = true) : inP (l.take (k + 1)) lo hi = inP (l.take k) lo hi ++ [p] := by rw [inP_next lo hi h, if_pos hx]
theorem inP_no {l : List Pr} {k : Nat} {p : Pr} {lo hi : ByteArray} (h : l[k]? = some p) (hx : hasB lo hi p.k = false) : inP (l.take (k + 1)) lo hi = inP (l.take k) lo hi := by rw [inP_next lo hi h, if_neg (by rw [hx]; simp), List.append_nil]
theorem inP_cut (l : List Pr) (k : Nat) (lo hi : ByteArray) : inP l lo hi = inP (l.take k) lo hi ++ inP (l.drop k) lo hi := by
  unfold inP; rw [← List.filter_append, List.take_append_drop]
theorem rng_full {l : List Pr} {k : Nat} {p : Pr} {lo hi : ByteArray} (h : l[k]? = some p) (hx : hasB lo hi p.k = true) (h8 : (inP (l.take k) lo hi).length = 8) : rngP l lo hi = inP (l.take k) lo hi ∧ moreB l lo hi = true := by
  have hlt : k < l.length := by
    rcases Nat.lt_or_ge k l.length with h1 | h1
    · exact h1
    · rw [List.getElem?_eq_none h1] at h; cases h
  have hd : (inP (l.drop k) lo hi).length ≠ 0 := by
    rw [List.drop_eq_getElem_cons hlt]
    rw [List.getElem?_eq_getElem hlt] at h
    injection h with h
    rw [h]
    unfold inP
    rw [List.filter_cons, if_pos hx]; simp
  constructor
  · unfold rngP; rw [inP_cut l k, ← h8, List.take_left]
  · unfold moreB; rw [inP_cut l k, List.length_append, h8]; exact decide_eq_true (by omega)
theorem rng_end {l : List Pr} {lo hi : ByteArray} (h8 : (inP l lo hi).length ≤ 8) : rngP l lo hi = inP l lo hi ∧ moreB l lo hi = false :=
  ⟨by unfold rngP; exact List.take_of_length_le h8, by unfold moreB; exact decide_eq_false (by omega)⟩
/-- append of pairs that lie onto own ones. -/
theorem wpList_append_mine {ops : Array Oper} {rest : List Oper} {o : Oper} {a : Act} {Q : Exit → Act → World → Prop} {w : World} (hgd : o.guard = none) (s x : Operand)
    (ho : o.op = .call { callee := .builtin .append, args := #[s, x], argTypes := #[22, 22] })
    {base : Nat} {v : Value} {l zs : List Pr} (hs : a.eval s = v) (hown : Mine base w v l) (A : Option Addr) (m c : Nat) (hx : a.eval x = .slice A m c) (hm : zs.length = m) (hc : A = none → c = 0) (hl : Prs w A zs) (hb : l.length + m ≤ 3518437208883) (hbase : base ≤ w.heap.size)
    (h : ∀ v' w', Mine base w' v' (l ++ zs) → w.grownBy w' v.ownBlock → wpList Try.prog ops Q rest (a.put o.dst v') w') : wpList Try.prog ops Q (o :: rest) a w := by
  obtain ⟨i0, hi, hz0, hz1, hz2⟩ := pair_parts
  refine wpList_append_els hgd s x 22 ho base 47 i0 _ 40 under_pairs hi hz0 hz1 hz2 (by omega) rfl v l.length (prV l) hs hown A m c (prV zs) hx (prV_all _) ((prV_len _).trans hm) hc hl (by omega) (by omega) hbase ?_
  intro v' w' h1 h2
  refine h v' w' ?_ h2
  unfold Mine
  rw [List.length_append, hm, prV_append]
  exact h1
/-- What a round of Range knows. -/
structure Rg (W w : World) (v : Value) (l : List Pr) (lo hi : ByteArray) (k : Nat) : Prop where
  own : Mine W.heap.size w v (inP (l.take k) lo hi)
  few : (inP (l.take k) lo hi).length ≤ 8
  old : Below W.heap.size W w
theorem Rg.start (W : World) (l : List Pr) (lo hi : ByteArray) : Rg W W (.slice none 0 0) l lo hi 0 := ⟨Mine.nil_ _ _, Nat.zero_le _, Below.refl _ _⟩
theorem Rg.step {W w w' : World} {v : Value} {l : List Pr} {lo hi : ByteArray} {k : Nat} (h : Rg W w v l lo hi k) (hb : Below w.heap.size w w') : Rg W w' v l lo hi k := ⟨h.own.below hb, h.few, h.old.trans (hb.mono h.old.size)⟩
theorem Rg.skip {W w : World} {v : Value} {l : List Pr} {lo hi : ByteArray} {k : Nat} {p : Pr} (h : Rg W w v l lo hi k) (hp : l[k]? = some p) (hx : hasB lo hi p.k = false) : Rg W w v l lo hi (k + 1) := ⟨by rw [inP_no hp hx]; exact h.own, by rw [inP_no hp hx]; exact h.few, h.old⟩
theorem Rg.form {W w : World} {v : Value} {l : List Pr} {lo hi : ByteArray} {k : Nat} (h : Rg W w v l lo hi k) : ∃ A c n, v = .slice A n c ∧ n = (inP (l.take k) lo hi).length ∧ n ≤ 8 := by
  obtain ⟨A, c, e, _⟩ := own_form h.own
  exact ⟨A, c, _, e, rfl, h.few⟩
set_option maxRecDepth 100000 in
set_option maxHeartbeats 2000000 in
theorem range_any (v : Value) (l : List Pr) (lo hi : ByteArray) (w : World) (h : Pin w v l) (ln : l.length ≤ 4611686018427387904) :
    Calls Try.prog 78 #[v, .agg #[.string lo, .string hi]] w (Ans w (rngP l lo hi) (.bool (moreB l lo hi))) := by
  obtain ⟨A, c, rfl, hA, hc, hcc, hl⟩ := h
  have HL := hide hl
  clear hl
  go_enter Try.func78, Try.ntmps78
  go_upto_region 1 with (fail)
  have TW := hide (Two.new w lo hi 72)
  have HB1 := hide (kept_alloc (kept_refl w) (.cells #[.string lo, .string hi] 72))
  have HL1 := hide (HL.out.alloc (.cells #[.string lo, .string hi] 72))
  clear HL
  generalize w.alloc (.cells #[.string lo, .string hi] 72) = w1 at TW HB1 HL1 ⊢
  generalize w.heap.size = g0 at TW ⊢
  go_wp2
  go_loopw [6, 11] (fun v i wr => ∃ (k n c' : Nat) (A' : Option Addr), k ≤ l.length ∧ i = .int .i64 k ∧ v = .slice A' n c' ∧ n ≤ 8 ∧ Hid ((inP (l.take k) lo hi).length = n) ∧ Hid (Rg w1 wr (.slice A' n c') l lo hi k)) (fun _ i _ => l.length - (intOf i).toNat)
  case atStart => exact ⟨0, 0, 0, none, by omega, rfl, rfl, by omega, rfl, Rg.start _ _ _ _⟩
  case round =>
    obtain ⟨k, n, c', A', hk, rfl, rfl, hn8, HN, R⟩ := hrel
    by_cases hlt : k < l.length
    · obtain ⟨p, hp⟩ : ∃ p, l[k]? = some p := ⟨_, List.getElem?_eq_getElem hlt⟩
      obtain ⟨b, o, rfl, hbs, c0, c1, c2⟩ := (HL1.out.below R.out.old).at_ hp
      have HP := hide hp
      clear hp
      go_upto_region 5 with (fail)
      have RW := hide (Row.new wr 47 #[.string p.k, .string p.v, .int .i64 p.n])
      have HB2 := kept_alloc (kept_refl wr) (.cells #[.string p.k, .string p.v, .int .i64 p.n] 47)
      have R2 := hide (R.out.step HB2)
      generalize wr.alloc (.cells #[.string p.k, .string p.v, .int .i64 p.n] 47) = w2 at RW R2 ⊢
      generalize wr.heap.size = g2 at RW ⊢
      clear HB2 R c0 c1 c2 hbs
      have TW2 := TW.out.kept R2.out.old
      obtain ⟨s0, s1⟩ : _ ∧ _ := ⟨TW2.c0, TW2.c1⟩
      obtain ⟨r0, r1, r2⟩ := RW.out.three
      clear TW2
      have HH := hide (has_any lo hi p.k w2)
      cases ht : hasB lo hi p.k
      · rw [ht] at HH
        have R4 := hide (R2.out.skip HP.out ht)
        have N4 : Hid ((inP (l.take (k + 1)) lo hi).length = n) := hide (by rw [inP_no HP.out ht]; exact HN.out)
        clear ht
        go_wp2_with (go_at_call 101; (with_reducible refine HH.out.mono ?_); rintro e w3 ⟨rfl, hb3⟩; have R3 := hide (R4.out.step hb3); clear hb3)
        go_roundw
        case rel => exact ⟨k + 1, n, c', A', by omega, by go_num, rfl, hn8, N4, R3⟩
        case measure => simp [intOf]; omega
      · rw [ht] at HH
        by_cases h8 : n = 8
        · subst h8
          have HE := hide (rng_full HP.out ht HN.out)
          clear ht
          go_wp2_with (go_at_call 101; (with_reducible refine HH.out.mono ?_); rintro e w3 ⟨rfl, hb3⟩; have R3 := hide (R2.out.step hb3); clear hb3)
          go_ret2
          exact ⟨_, by rw [HE.out.2]; rfl, by rw [HE.out.1]; exact R3.out.own.mono HB1.out.size, kept_trans HB1.out R3.out.old⟩
        · have h8' : ((n : Int) == 8) = false := by simp; omega
          have HX := hide (inP_yes HP.out ht)
          clear ht
          go_upto_region 8 with (go_at_call 101; (with_reducible refine HH.out.mono ?_); rintro e w3 ⟨rfl, hb3⟩; have R3 := hide (R2.out.step hb3); have RW3 := hide (RW.out.below hb3 RW.out.lt); clear hb3)
          obtain ⟨r0, r1, r2⟩ := RW3.out.three
          clear RW RW3 R2 HH s0 s1
          have PO := hide (prs_one w3 p 47)
          have R5 := hide (R3.out.step (kept_alloc (kept_refl w3) (.cells #[.string p.k, .string p.v, .int .i64 p.n] 47)))
          have hsz := R5.out.old.size
          go_wp2_with (at_builtin; refine wpList_append_mine rfl (.tmp 24) (.tmp 26) rfl rfl R5.out.own _ 1 1 rfl rfl (fun h => by cases h) PO.out (by rw [HN.out]; omega) hsz ?_; intro v4 w4 ho4 hb4)
          have R6 := hide (show Rg w1 w4 v4 l lo hi (k + 1) from ⟨by rw [HX.out]; exact ho4, by rw [HX.out, List.length_append, HN.out]; simp; omega, R5.out.old.grown hb4 hsz (fun k hk => (R5.out.own.lt k hk))⟩)
          clear ho4 hb4
          obtain ⟨A5, c5, n5, rfl, hn5, hn58⟩ := R6.out.form
          go_roundw
          case rel => exact ⟨k + 1, n5, c5, A5, by omega, by go_num, rfl, hn58, hn5.symm, R6⟩
          case measure => simp [intOf]; omega
    · obtain rfl : k = l.length := by omega
      have e0 : inP (l.take l.length) lo hi = inP l lo hi := by rw [List.take_length]
      have HE := hide (rng_end (l := l) (lo := lo) (hi := hi) (by rw [← e0]; exact R.out.few))
      have HO : Hid (Mine w1.heap.size wr (.slice A' n c') (inP l lo hi)) := hide (by rw [← e0]; exact R.out.own)
      clear e0
      go_wp2
      go_ret2
      exact ⟨_, by rw [HE.out.2]; rfl, by rw [HE.out.1]; exact HO.out.mono HB1.out.size, kept_trans HB1.out R.out.old⟩
end Go.Proofs.Ytahfpncfkcfogaa
/- What the document's Get and Delete come to. Conditions: the list lies in memory, its length has room. -/
namespace Go.Proofs.Ytahfpncfkcfogaa
open Go.RowKit
theorem rat_b (A : Option Addr) (n c : Nat) (l : List Pr) (key : ByteArray) (w : World) (hn : l.length = n) (hl : Prs w A l) (ln : n ≤ 4611686018427387904) :
    Calls Try.prog 68 #[.slice A n c, .string key] w fun e w' => e = .returned (foundV l key) ∧ Below w.heap.size w w' :=
  (rat_any A n c l key w hn hl ln).mono fun _ _ ⟨he, q, hq⟩ => ⟨he, by subst hq; exact kept_drewN (kept_refl w) q⟩
set_option maxRecDepth 100000 in
set_option maxHeartbeats 2000000 in
theorem rget_any (v : Value) (l : List Pr) (key : ByteArray) (w : World) (h : Pin w v l) (ln : l.length ≤ 4611686018427387904) :
    Calls Try.prog 33 #[v, .string key] w fun e w' => e = .returned (.tuple #[.agg #[.string (getP l key).k, .string (getP l key).v, .int .i64 (getP l key).n], .bool (isB l key)]) ∧ Below w.heap.size w w' := by
  obtain ⟨A, c, rfl, hA, hc, hcc, hl⟩ := h
  have HF := hide (fun w1 h1 => rat_b A l.length c l key w1 rfl h1 ln)
  have HL := hide hl
  clear hl
  obtain ⟨k, hk⟩ : ∃ k, st l key = k := ⟨_, rfl⟩
  obtain ⟨t, ht⟩ : ∃ t, isB l key = t := ⟨_, rfl⟩
  cases t
  · have e0 : foundV l key = .tuple #[.int .i64 (k : Nat), .bool false] := by unfold foundV; rw [hk, ht]
    rw [e0] at HF
    have hg := hide (getP_none ht)
    rw [hg.out, ht]
    clear e0 hk ht
    go_enter Try.func33, Try.ntmps33
    go_wp2_with (go_at_call 68; (with_reducible refine (HF.out _ ?_).mono ?_); first | (with_reducible exact HL.out) | (with_reducible exact HL.out.alloc _); rintro e w1 ⟨rfl, hb1⟩; obtain ⟨R, HB⟩ := fresh3 hb1; clear hb1; have HB := hide HB; obtain ⟨c0, c1, c2⟩ := R.three; obtain ⟨g0, g1, g2⟩ := R.frees; have R := hide R)
    exact bodyPost_ret (results_pair Try.results33 rfl rfl (R.out.put3 _ _ _)) rfl ⟨rfl, below_put3 HB.out (Nat.le_refl _) _ _ _⟩
  · have e0 : foundV l key = .tuple #[.int .i64 (k : Nat), .bool true] := by unfold foundV; rw [hk, ht]
    rw [e0] at HF
    obtain ⟨p, hp, -, hg, hlt⟩ := isB_some ht
    rw [hk] at hp hlt
    rw [hg, ht]
    have HP := hide hp
    clear e0 hk ht hg hp
    go_enter Try.func33, Try.ntmps33
    go_wp2_with (go_at_call 68; (with_reducible refine (HF.out _ ?_).mono ?_); first | (with_reducible exact HL.out) | (with_reducible exact HL.out.alloc _); rintro e w1 ⟨rfl, hb1⟩; obtain ⟨R, HB⟩ := fresh3 hb1; clear hb1; obtain ⟨b, o, rfl, hbs, d0, d1, d2⟩ := (HL.out.below HB).at_ HP.out; have HB := hide HB; obtain ⟨c0, c1, c2⟩ := R.three; obtain ⟨g0, g1, g2⟩ := R.frees; have R := hide R)
    exact bodyPost_ret (results_pair Try.results33 rfl rfl (R.out.put3 _ _ _)) rfl ⟨rfl, below_put3 HB.out (Nat.le_refl _) _ _ _⟩
theorem Mine.made {base : Nat} {w : World} (hb : base ≤ w.heap.size) : Mine base (w.alloc (.cells #[] 47)) (.slice (some ⟨w.heap.size, 0, none⟩) 0 0) [] := w.ownsRow_made #[] 0 hb (by unfold maxLen; omega) rfl
/-- append of pairs that lie onto own ones, as a step of a drawn region. -/
theorem step_append_mine {ops : Array Oper} {o : Oper} {a : Act} {K : Act → World → Prop} {Q : Exit → Act → World → Prop} {E : Prop} {w : World} (hgd : o.guard = none) (s x : Operand)
    (ho : o.op = .call { callee := .builtin .append, args := #[s, x], argTypes := #[22, 22] })
    {base : Nat} {v : Value} {l zs : List Pr} (hs : a.eval s = v) (hown : Mine base w v l) (A : Option Addr) (m c : Nat) (hx : a.eval x = .slice A m c) (hm : zs.length = m) (hc : A = none → c = 0) (hl : Prs w A zs) (hb : l.length + m ≤ 3518437208883) (hbase : base ≤ w.heap.size)
    (h : ∀ v' w', Mine base w' v' (l ++ zs) → w.grownBy w' v.ownBlock → K (a.put o.dst v') w') : if Region.wanted o (yielded ops a.tmps) = true then Oper.wp Try.prog o a w K Q else E := by
  obtain ⟨i0, hi, hz0, hz1, hz2⟩ := pair_parts
  refine step_append_els hgd s x 22 ho base 47 i0 _ 40 under_pairs hi hz0 hz1 hz2 (by omega) rfl v l.length (prV l) hs hown A m c (prV zs) hx (prV_all _) ((prV_len _).trans hm) hc hl (by omega) (by omega) hbase ?_
  intro v' w' h1 h2
  refine h v' w' ?_ h2
  unfold Mine
  rw [List.length_append, hm, prV_append]
  exact h1
set_option maxRecDepth 100000 in
set_option maxHeartbeats 2000000 in
theorem rdel_any (v : Value) (l : List Pr) (key : ByteArray) (w : World) (h : Pin w v l) (ln : l.length ≤ 3518437208780) :
    Calls Try.prog 80 #[v, .string key] w (Ans w (delP l key) (.bool (isB l key))) := by
  obtain ⟨A, c, rfl, hA, hc, hcc, hl⟩ := h
  have HF := hide (rat_b A l.length c l key w rfl hl (by omega))
  have HL := hide hl
  clear hl
  obtain ⟨k, hk⟩ : ∃ k, st l key = k := ⟨_, rfl⟩
  obtain ⟨t, ht⟩ : ∃ t, isB l key = t := ⟨_, rfl⟩
  cases t
  · have e0 : foundV l key = .tuple #[.int .i64 (k : Nat), .bool false] := by unfold foundV; rw [hk, ht]
    rw [e0] at HF
    have e1 : delP l key = l := by unfold delP; rw [ht]; simp
    rw [e1, ht]
    clear e0 e1 hk ht
    go_enter Try.func80, Try.ntmps80
    go_upto_region 3 with (go_at_call 68; (with_reducible refine HF.out.mono ?_); rintro e w1 ⟨rfl, hb1⟩; have HB := hide hb1; clear hb1)
    have OW := hide (Mine.made (base := w.heap.size) HB.out.size)
    have HL1 := hide ((HL.out.below HB.out).alloc (.cells #[] 47))
    have HB1 := hide (kept_alloc HB.out (.cells #[] 47))
    have hsz := HB1.out.size
    clear HL HF
    go_wp2_with (at_builtin; refine wpList_append_mine rfl (.tmp 16) (.tmp 17) rfl rfl OW.out _ l.length c rfl rfl hA HL1.out (by simp; omega) hsz ?_; intro v4 w4 ho4 hb4)
    go_ret2
    exact ⟨_, rfl, ho4, HB1.out.grown hb4 hsz (fun k hk => (OW.out.lt k hk))⟩
  · have e0 : foundV l key = .tuple #[.int .i64 (k : Nat), .bool true] := by unfold foundV; rw [hk, ht]
    rw [e0] at HF
    obtain ⟨p, hp, -, hg, hlt⟩ := isB_some ht
    rw [hk] at hp hlt
    obtain ⟨j, hj⟩ : ∃ j : Nat, j = k + 1 := ⟨_, rfl⟩
    have hjw : IntKind.i64.wrap ((k : Int) + 1) = (j : Int) := by rw [IntKind.wrap_i64]; omega
    have e1 : delP l key = l.take k ++ l.drop j := by unfold delP; rw [ht, hk, hj]; simp
    rw [e1, ht]
    clear e0 e1 hk ht hg hp
    have HK := hide (show (l.take k).length = k by rw [List.length_take]; omega)
    have HJ := hide (show (l.drop j).length = l.length - j by rw [List.length_drop])
    have hjl : j ≤ l.length := by omega
    have hjc : j ≤ c := by omega
    have hkl : k ≤ l.length := by omega
    have hkc : k ≤ c := by omega
    have HKJ := hide (show k + (l.length - j) ≤ 3518437208883 by omega)
    have HN := hide (fun h => partV_none (m := 3) (c := c) (i := j) hA h)
    clear hj
    have hpv : ∀ (A : Option Addr) (c : Nat), (if c = j then A else Option.map (fun x => x.add (j * 3)) A) = partV 3 A c j := fun _ _ => rfl
    go_enter Try.func80, Try.ntmps80
    go_upto_region 4 with (go_at_call 68; (with_reducible refine HF.out.mono ?_); rintro e w1 ⟨rfl, hb1⟩; have HB := hide hb1; clear hb1)
    have OW := hide (Mine.made (base := w.heap.size) (w := w1.drew) HB.out.size)
    have HL1 := hide ((HL.out.below HB.out).drew.alloc (.cells #[] 47))
    have HB1 := hide (kept_alloc HB.out.drew (.cells #[] 47))
    clear HF HB
    go_region_held3 (fun _ => True) (go_keep)
      (first
        | (refine step_append_mine rfl (.tmp 19) (.tmp 22) rfl rfl OW.out A k c rfl HK.out hA (HL1.out.take k) (by have := HKJ.out; simp; omega) HB1.out.size ?_; intro v4 w4 ho4 hb4; have OW4 := hide (show Mine w.heap.size w4 v4 (l.take k) from ho4); have HB4 := hide (HB1.out.grown hb4 HB1.out.size (fun k hk => (OW.out.lt k hk))); clear ho4 hb4)
        | (refine step_append_mine rfl (.tmp 23) (.tmp 27) rfl rfl OW4.out (partV 3 A c j) (l.length - j) (c - j) rfl HJ.out HN.out ((HL.out.below HB4.out).rest hc j) (by rw [HK.out]; exact HKJ.out) HB4.out.size ?_; intro v5 w5 ho5 hb5; have HO5 := hide ho5; have HB5 := hide (HB4.out.grown hb5 HB4.out.size (fun k hk => (OW4.out.lt k hk))); clear ho5 hb5))
    all_goals
      go_wp2
      go_ret2
      exact ⟨_, rfl, HO5.out, HB5.out⟩
end Go.Proofs.Ytahfpncfkcfogaa
/- What the document's Range comes to. Conditions: the list lies in memory, its length has room. -/
namespace Go.Proofs.Ytahfpncfkcfogaa
open Go.RowKit
theorem rhas_same (lo hi k : ByteArray) : rhasB lo hi k = hasB lo hi k := rfl
set_option maxRecDepth 100000 in
set_option maxHeartbeats 2000000 in
theorem rrange_any (v : Value) (l : List Pr) (lo hi : ByteArray) (w : World) (h : Pin w v l) (ln : l.length ≤ 4611686018427387904) :
    Calls Try.prog 34 #[v, .agg #[.string lo, .string hi]] w (Ans w (rngP l lo hi) (.bool (moreB l lo hi))) := by
  obtain ⟨A, c, rfl, hA, hc, hcc, hl⟩ := h
  have HL := hide hl
  clear hl
  go_enter Try.func34, Try.ntmps34
  go_upto_region 1 with (fail)
  have TW := hide (Two.new w lo hi 72)
  have HB1 := hide (kept_alloc (kept_refl w) (.cells #[.string lo, .string hi] 72))
  have HL1 := hide (HL.out.alloc (.cells #[.string lo, .string hi] 72))
  clear HL
  generalize w.alloc (.cells #[.string lo, .string hi] 72) = w1 at TW HB1 HL1 ⊢
  generalize w.heap.size = g0 at TW ⊢
  go_wp2
  go_loopw [6, 7] (fun v i wr => ∃ (k n c' : Nat) (A' : Option Addr), k ≤ l.length ∧ i = .int .i64 k ∧ v = .slice A' n c' ∧ n ≤ 8 ∧ Hid ((inP (l.take k) lo hi).length = n) ∧ Hid (Rg w1 wr (.slice A' n c') l lo hi k)) (fun _ i _ => l.length - (intOf i).toNat)
  case atStart => exact ⟨0, 0, 0, none, by omega, rfl, rfl, by omega, rfl, Rg.start _ _ _ _⟩
  case round =>
    obtain ⟨k, n, c', A', hk, rfl, rfl, hn8, HN, R⟩ := hrel
    by_cases hlt : k < l.length
    · obtain ⟨p, hp⟩ : ∃ p, l[k]? = some p := ⟨_, List.getElem?_eq_getElem hlt⟩
      obtain ⟨b, o, rfl, hbs, c0, c1, c2⟩ := (HL1.out.below R.out.old).at_ hp
      have HP := hide hp
      clear hp
      have TW2 := TW.out.kept R.out.old
      obtain ⟨s0, s1⟩ : _ ∧ _ := ⟨TW2.c0, TW2.c1⟩
      have lg := TW2.lt
      clear TW2
      have HH := hide (fun w => rhas_any lo hi p.k w)
      have HD := hide (show wr.cell? ⟨b, o + k * 3, none⟩ = some (.string p.k) ∧ wr.cell? ⟨b, o + k * 3 + 1, none⟩ = some (.string p.v) ∧ wr.cell? ⟨b, o + k * 3 + 2, none⟩ = some (.int .i64 p.n) ∧ b < wr.heap.size from ⟨c0, c1, c2, hbs⟩)
      go_upto_region 5 with (fail)
      have st : Below wr.heap.size wr wr := kept_refl wr
      cases ht : hasB lo hi p.k
      · have ht' := (rhas_same lo hi p.k).trans ht
        rw [ht'] at HH
        have R4 := hide (R.out.skip HP.out ht)
        have N4 : Hid ((inP (l.take (k + 1)) lo hi).length = n) := hide (by rw [inP_no HP.out ht]; exact HN.out)
        clear ht ht'
        refine wp_region_sp (fun w' => Below wr.heap.size wr w') (by kernel_rfl) (by kernel_rfl) st.drew ?_
        generalize hS : (fun w' => Below wr.heap.size wr w') = S
        have l0 : ∀ s : Sp S, s.w.cell? ⟨g0, 0, none⟩ = some (.string lo) := by subst hS; exact fun s => (s.ok.cell (p := ⟨g0, 0, none⟩) lg).trans s0
        have l1 : ∀ s : Sp S, s.w.cell? ⟨g0, 1, none⟩ = some (.string hi) := by subst hS; exact fun s => (s.ok.cell (p := ⟨g0, 1, none⟩) lg).trans s1
        have l2 : ∀ s : Sp S, s.w.cell? ⟨b, o + k * 3, none⟩ = some (.string p.k) := by subst hS; exact fun s => (s.ok.cell (p := ⟨b, o + k * 3, none⟩) hbs).trans c0
        have ne : Nonempty (Sp S) := by subst hS; exact ⟨⟨_, st⟩⟩
        have STEP := hide (show ∀ w w', S w → Below w.heap.size w w' → S w' by subst hS; exact fun _ _ h hb => kept_trans h hb)
        have OLD := hide (show ∀ s : Sp S, Below wr.heap.size wr s.w by subst hS; exact fun s => s.ok)
        clear s0 s1 c0 c1 c2 hbs lg
        clear st hS
        repeat (go_big_quiet_step ((first | (go_at_call 69; with_reducible exact sp_call STEP.out _ (HH.out _)))))
        refine wpQuiet_nil ?_
        intro kk
        have OK := hide (OLD.out kk)
        generalize kk.w = wk at OK ⊢
        clear l0 l1 l2 ne OLD STEP
        have R3 := hide (R4.out.step OK.out)
        go_wp2
        go_roundw
        case rel => exact ⟨k + 1, n, c', A', by omega, by go_num, rfl, hn8, N4, R3⟩
        case measure => simp [intOf]; omega
      · have ht' := (rhas_same lo hi p.k).trans ht
        rw [ht'] at HH
        clear ht'
        by_cases h8 : n = 8
        · subst h8
          have HE := hide (rng_full HP.out ht HN.out)
          clear ht
          refine wp_region_sp (fun w' => Below wr.heap.size wr w') (by kernel_rfl) (by kernel_rfl) st.drew ?_
          generalize hS : (fun w' => Below wr.heap.size wr w') = S
          have l0 : ∀ s : Sp S, s.w.cell? ⟨g0, 0, none⟩ = some (.string lo) := by subst hS; exact fun s => (s.ok.cell (p := ⟨g0, 0, none⟩) lg).trans s0
          have l1 : ∀ s : Sp S, s.w.cell? ⟨g0, 1, none⟩ = some (.string hi) := by subst hS; exact fun s => (s.ok.cell (p := ⟨g0, 1, none⟩) lg).trans s1
          have l2 : ∀ s : Sp S, s.w.cell? ⟨b, o + k * 3, none⟩ = some (.string p.k) := by subst hS; exact fun s => (s.ok.cell (p := ⟨b, o + k * 3, none⟩) hbs).trans c0
          have ne : Nonempty (Sp S) := by subst hS; exact ⟨⟨_, st⟩⟩
          have STEP := hide (show ∀ w w', S w → Below w.heap.size w w' → S w' by subst hS; exact fun _ _ h hb => kept_trans h hb)
          have OLD := hide (show ∀ s : Sp S, Below wr.heap.size wr s.w by subst hS; exact fun s => s.ok)
          clear s0 s1 c0 c1 c2 hbs lg
          clear st hS
          repeat (go_big_quiet_step ((first | (go_at_call 69; with_reducible exact sp_call STEP.out _ (HH.out _)))))
          refine wpQuiet_nil ?_
          intro kk
          have OK := hide (OLD.out kk)
          generalize kk.w = wk at OK ⊢
          clear l0 l1 l2 ne OLD STEP
          have R3 := hide (R.out.step OK.out)
          go_wp2
          go_ret2
          exact ⟨_, by rw [HE.out.2]; rfl, by rw [HE.out.1]; exact R3.out.own.mono HB1.out.size, kept_trans HB1.out R3.out.old⟩
        · have h8' : ((n : Int) == 8) = false := by simp; omega
          have HX := hide (inP_yes HP.out ht)
          clear ht
          refine wp_region_sp (fun w' => Below wr.heap.size wr w') (by kernel_rfl) (by kernel_rfl) st.drew ?_
          generalize hS : (fun w' => Below wr.heap.size wr w') = S
          have l0 : ∀ s : Sp S, s.w.cell? ⟨g0, 0, none⟩ = some (.string lo) := by subst hS; exact fun s => (s.ok.cell (p := ⟨g0, 0, none⟩) lg).trans s0
          have l1 : ∀ s : Sp S, s.w.cell? ⟨g0, 1, none⟩ = some (.string hi) := by subst hS; exact fun s => (s.ok.cell (p := ⟨g0, 1, none⟩) lg).trans s1
          have l2 : ∀ s : Sp S, s.w.cell? ⟨b, o + k * 3, none⟩ = some (.string p.k) := by subst hS; exact fun s => (s.ok.cell (p := ⟨b, o + k * 3, none⟩) hbs).trans c0
          have ne : Nonempty (Sp S) := by subst hS; exact ⟨⟨_, st⟩⟩
          have STEP := hide (show ∀ w w', S w → Below w.heap.size w w' → S w' by subst hS; exact fun _ _ h hb => kept_trans h hb)
          have OLD := hide (show ∀ s : Sp S, Below wr.heap.size wr s.w by subst hS; exact fun s => s.ok)
          clear s0 s1 c0 c1 c2 hbs lg
          clear st hS
          repeat (go_big_quiet_step ((first | (go_at_call 69; with_reducible exact sp_call STEP.out _ (HH.out _)))))
          refine wpQuiet_nil ?_
          intro kk
          have OK := hide (OLD.out kk)
          generalize kk.w = wk at OK ⊢
          clear l0 l1 l2 ne OLD STEP
          have R3 := hide (R.out.step OK.out)
          obtain ⟨r0, r1, r2, rb⟩ := HD.out
          replace r0 := (OK.out.cell (p := ⟨b, o + k * 3, none⟩) rb).trans r0
          replace r1 := (OK.out.cell (p := ⟨b, o + k * 3 + 1, none⟩) rb).trans r1
          replace r2 := (OK.out.cell (p := ⟨b, o + k * 3 + 2, none⟩) rb).trans r2
          clear HD R HH
          have PO := hide (prs_one wk p 47)
          have R5 := hide (R3.out.step (kept_alloc (kept_refl wk) (.cells #[.string p.k, .string p.v, .int .i64 p.n] 47)))
          have hsz := R5.out.old.size
          go_wp2_with (at_builtin; refine wpList_append_mine rfl (.tmp 26) (.tmp 31) rfl rfl R5.out.own _ 1 1 rfl rfl (fun h => by cases h) PO.out (by rw [HN.out]; omega) hsz ?_; intro v4 w4 ho4 hb4)
          have R6 := hide (show Rg w1 w4 v4 l lo hi (k + 1) from ⟨by rw [HX.out]; exact ho4, by rw [HX.out, List.length_append, HN.out]; simp; omega, R5.out.old.grown hb4 hsz (fun k hk => (R5.out.own.lt k hk))⟩)
          clear ho4 hb4
          obtain ⟨A5, c5, n5, rfl, hn5, hn58⟩ := R6.out.form
          go_roundw
          case rel => exact ⟨k + 1, n5, c5, A5, by omega, by go_num, rfl, hn58, hn5.symm, R6⟩
          case measure => simp [intOf]; omega
    · obtain rfl : k = l.length := by omega
      have e0 : inP (l.take l.length) lo hi = inP l lo hi := by rw [List.take_length]
      have HE := hide (rng_end (l := l) (lo := lo) (hi := hi) (by rw [← e0]; exact R.out.few))
      have HO : Hid (Mine w1.heap.size wr (.slice A' n c') (inP l lo hi)) := hide (by rw [← e0]; exact R.out.own)
      clear e0
      go_wp2
      go_ret2
      exact ⟨_, by rw [HE.out.2]; rfl, by rw [HE.out.1]; exact HO.out.mono HB1.out.size, kept_trans HB1.out R.out.old⟩
end Go.Proofs.Ytahfpncfkcfogaa
/- What the document's Put comes to. Conditions: the list lies in memory, its length has room. -/
namespace Go.Proofs.Ytahfpncfkcfogaa
open Go.RowKit
theorem Mine.made_at {base g : Nat} {w : World} (hg : w.heap.size = g) (hb : base ≤ g) : Mine base (w.alloc (.cells #[] 47)) (.slice (some ⟨g, 0, none⟩) 0 0) [] := by subst hg; exact Mine.made hb
theorem Mine.alloc {base : Nat} {w : World} {v : Value} {l : List Pr} (h : Mine base w v l) (o : Obj) : Mine base (w.alloc o) v l := h.below (kept_alloc (kept_refl w) o)
theorem prs_at {w : World} {g : Nat} (hg : w.heap.size = g) (p : Pr) : Prs (w.alloc (.cells #[.string p.k, .string p.v, .int .i64 p.n] 47)) (some ⟨g, 0, none⟩) [p] := by subst hg; exact prs_one w p _
theorem Prs.off {w w' : World} {g h n c : Nat} {l : List Pr} (hp : Prs w (some ⟨g, 0, none⟩) l) (hg : w.grownBy w' (Value.slice (some ⟨h, 0, none⟩) n c).ownBlock) (hne : g ≠ h) : Prs w' (some ⟨g, 0, none⟩) l := hp.grown hg (fun a e => by cases e; simp [Value.ownBlock]; exact hne)
set_option maxRecDepth 100000 in
set_option maxHeartbeats 4000000 in
theorem rput_new (v : Value) (l : List Pr) (key value : ByteArray) (w : World) (h : Pin w v l) (ln : l.length ≤ 3518437208780) (ht : isB l key = false) :
    Calls Try.prog 79 #[v, .string key, .string value] w (Ans w (putL l key value) (.int .i64 (putE l key))) := by
  obtain ⟨A, c, rfl, hA, hc, hcc, hl⟩ := h
  by_cases hf : 32 ≤ l.length
  · have e1 : putL l key value = [] := by unfold putL fullB; rw [ht]; simp [hf]
    have e2 : putE l key = 7 := by unfold putE fullB; rw [ht]; simp [hf]
    rw [e1, e2]
    have HF := hide (rat_b A l.length c l key w rfl hl (by omega))
    obtain ⟨k, hk⟩ : ∃ k, st l key = k := ⟨_, rfl⟩
    have e0 : foundV l key = .tuple #[.int .i64 (k : Nat), .bool false] := by unfold foundV; rw [hk, ht]
    rw [e0] at HF
    clear e0 e1 e2 hk ht hl
    have hf2 : decide ((32 : Int) ≤ (l.length : Int)) = true := decide_eq_true (by omega)
    go_enter Try.func79, Try.ntmps79
    go_wp2_with (go_at_call 68; (with_reducible refine HF.out.mono ?_); rintro e w0 ⟨rfl, hb1⟩)
    go_ret2
    exact ⟨_, rfl, Mine.nil_ _ _, hb1⟩
  · have HF := hide (rat_b A l.length c l key w rfl hl (by omega))
    have HL := hide hl
    clear hl
    obtain ⟨k, hk⟩ : ∃ k, st l key = k := ⟨_, rfl⟩
    have e0 : foundV l key = .tuple #[.int .i64 (k : Nat), .bool false] := by unfold foundV; rw [hk, ht]
    rw [e0] at HF
    have hkl := st_le l key
    rw [hk] at hkl
    have e1 : putL l key value = l.take k ++ (⟨key, value, 1⟩ :: l.drop k) := by unfold putL fullB putP verP behP; rw [ht, hk]; simp [hf]
    have e2 : putE l key = 0 := by unfold putE fullB; rw [ht]; simp [hf]
    rw [e1, e2]
    clear e0 e1 e2 hk ht
    have hkc : k ≤ c := by omega
    have hf2 : decide ((32 : Int) ≤ (l.length : Int)) = false := decide_eq_false (by omega)
    have hpv : ∀ (A : Option Addr) (c : Nat), (if c = k then A else Option.map (fun x => x.add (k * 3)) A) = partV 3 A c k := fun _ _ => rfl
    have HK := hide (show (l.take k).length = k by rw [List.length_take]; omega)
    have HJ := hide (show (l.drop k).length = l.length - k by rw [List.length_drop])
    have HS := hide (show l.length < 32 by omega)
    have HKL := hide hkl
    have HN := hide (fun h => partV_none (m := 3) (c := c) (i := k) hA h)
    go_enter Try.func79, Try.ntmps79
    go_upto_region 9 with (first
      | (go_at_call 68; (with_reducible refine HF.out.mono ?_); rintro e w0 ⟨rfl, hb1⟩; have HB := hide hb1; clear hb1)
      | (at_builtin; refine wpList_append_mine rfl (.tmp 24) (.tmp 25) rfl rfl (Mine.made (base := w.heap.size) HB.out.size) A l.length c rfl rfl hA (HL.out.below (kept_alloc HB.out _)) (by have := HS.out; simp; omega) (kept_alloc HB.out _).size ?_; intro v1 w1 ho1 hb1; have HB0 := hide ((kept_alloc HB.out (.cells #[] 47)).grown hb1 (kept_alloc HB.out _).size (fun k hk => by cases hk; exact HB.out.size)); clear ho1 hb1))
    replace HB0 := hide HB0.out.drew
    clear HF HB
    go_region_held3 (fun _ => True) (go_keep)
      (first
        | (refine step_append_mine rfl (.tmp 42) (.tmp 45) rfl rfl (Mine.made_at (w := w1.drew) (by rfl) HB0.out.size) A k c rfl HK.out hA ((HL.out.below (kept_alloc HB0.out (.cells #[] 47))).take k) (by have := HKL.out; have := HS.out; simp; omega) (Below.size (kept_alloc HB0.out (.cells #[] 47))) ?_; intro v4 w4 ho4 hb4; have OW4 := hide (show Mine w.heap.size w4 v4 (l.take k) from ho4); have HB4 := hide (Below.grown (kept_alloc HB0.out (.cells #[] 47)) hb4 (Below.size (kept_alloc HB0.out (.cells #[] 47))) (fun k hk => by cases hk; first | exact HB0.out.size | exact Nat.le_succ_of_le HB0.out.size)); clear ho4 hb4)
        | (refine step_append_mine rfl (.tmp 42) (.tmp 45) rfl rfl ((Mine.made_at (w := w1.drew) (by rfl) HB0.out.size).alloc (.cells #[.string key, .string value, .int .i64 1] 47)) A k c rfl HK.out hA ((HL.out.below (kept_alloc (kept_alloc HB0.out (.cells #[] 47)) (.cells #[.string key, .string value, .int .i64 1] 47))).take k) (by have := HKL.out; have := HS.out; simp; omega) (Below.size (kept_alloc (kept_alloc HB0.out (.cells #[] 47)) (.cells #[.string key, .string value, .int .i64 1] 47))) ?_; intro v4 w4 ho4 hb4; have OW4 := hide (show Mine w.heap.size w4 v4 (l.take k) from ho4); have HB4 := hide (Below.grown (kept_alloc (kept_alloc HB0.out (.cells #[] 47)) (.cells #[.string key, .string value, .int .i64 1] 47)) hb4 (Below.size (kept_alloc (kept_alloc HB0.out (.cells #[] 47)) (.cells #[.string key, .string value, .int .i64 1] 47))) (fun k hk => by cases hk; first | exact HB0.out.size | exact Nat.le_succ_of_le HB0.out.size)); have PO4 := hide (Prs.off (prs_at (w := w1.drew.alloc (.cells #[] 47)) (by simp; rfl) ⟨key, value, 1⟩) hb4 (by simp)); clear ho4 hb4)
        | (refine step_append_mine rfl (.tmp 42) (.tmp 45) rfl rfl (Mine.made_at (w := w1.drew.alloc (.cells #[.string key, .string value, .int .i64 1] 47)) (g := w1.heap.size + 1) (by simp) (Nat.le_succ_of_le HB0.out.size)) A k c rfl HK.out hA ((HL.out.below (kept_alloc (kept_alloc HB0.out (.cells #[.string key, .string value, .int .i64 1] 47)) (.cells #[] 47))).take k) (by have := HKL.out; have := HS.out; simp; omega) (Below.size (kept_alloc (kept_alloc HB0.out (.cells #[.string key, .string value, .int .i64 1] 47)) (.cells #[] 47))) ?_; intro v4 w4 ho4 hb4; have OW4 := hide (show Mine w.heap.size w4 v4 (l.take k) from ho4); have HB4 := hide (Below.grown (kept_alloc (kept_alloc HB0.out (.cells #[.string key, .string value, .int .i64 1] 47)) (.cells #[] 47)) hb4 (Below.size (kept_alloc (kept_alloc HB0.out (.cells #[.string key, .string value, .int .i64 1] 47)) (.cells #[] 47))) (fun k hk => by cases hk; first | exact HB0.out.size | exact Nat.le_succ_of_le HB0.out.size)); have PO4 := hide (Prs.off ((prs_at (w := w1.drew) (by rfl) ⟨key, value, 1⟩).alloc (.cells #[] 47)) hb4 (by simp)); clear ho4 hb4)
        | (refine step_append_mine rfl (.tmp 46) (.tmp 50) rfl rfl (OW4.out.alloc (.cells #[.string key, .string value, .int .i64 1] 47)) _ 1 1 rfl (zs := [⟨key, value, 1⟩]) rfl (fun h => by cases h) (prs_at (w := w4) (by rfl) ⟨key, value, 1⟩) (by rw [HK.out]; have := HKL.out; have := HS.out; omega) (Below.size (kept_alloc HB4.out (.cells #[.string key, .string value, .int .i64 1] 47))) ?_; intro v5 w5 ho5 hb5; have OW5 := hide ho5; have HB5 := hide (Below.grown (kept_alloc HB4.out (.cells #[.string key, .string value, .int .i64 1] 47)) hb5 (Below.size (kept_alloc HB4.out (.cells #[.string key, .string value, .int .i64 1] 47))) (fun k hk => (OW4.out.lt k hk))); clear ho5 hb5)
        | (refine step_append_mine rfl (.tmp 46) (.tmp 50) rfl rfl (OW4.out) _ 1 1 rfl (zs := [⟨key, value, 1⟩]) rfl (fun h => by cases h) (PO4.out) (by rw [HK.out]; have := HKL.out; have := HS.out; omega) (Below.size (HB4.out)) ?_; intro v5 w5 ho5 hb5; have OW5 := hide ho5; have HB5 := hide (Below.grown (HB4.out) hb5 (Below.size (HB4.out)) (fun k hk => (OW4.out.lt k hk))); clear ho5 hb5)
        | (refine step_append_mine rfl (.tmp 51) (.tmp 54) rfl rfl OW5.out (partV 3 A c k) (l.length - k) (c - k) rfl HJ.out HN.out ((HL.out.below HB5.out).rest hc k) (by rw [List.length_append, HK.out]; have := HKL.out; have := HS.out; simp; omega) HB5.out.size ?_; intro v6 w6 ho6 hb6; have HO6 := hide ho6; have HB6 := hide (HB5.out.grown hb6 HB5.out.size (fun k hk => (OW5.out.lt k hk))); clear ho6 hb6))
    all_goals
      go_wp2
      go_ret2
      refine ⟨_, rfl, ?_, HB6.out⟩
      have := HO6.out
      rw [List.append_assoc] at this
      exact this
theorem prV_set {l : List Pr} {k : Nat} {p q : Pr} (hp : l[k]? = some p) (hk : q.k = p.k) : ((cellsV (prV l)).set (k * 3 + 1) (.string q.v)).set (k * 3 + 2) (.int .i64 q.n) = cellsV (prV (l.set k q)) := by
  have hlt : k < l.length := by
    rcases Nat.lt_or_ge k l.length with h1 | h1
    · exact h1
    · rw [List.getElem?_eq_none h1] at hp; cases hp
  rw [List.getElem?_eq_getElem hlt] at hp
  injection hp with hp
  have e : l = l.take k ++ (p :: l.drop (k + 1)) := by rw [← hp, ← List.drop_eq_getElem_cons hlt, List.take_append_drop]
  have e2 : l.set k q = l.take k ++ (q :: l.drop (k + 1)) := by rw [List.set_eq_take_append_cons_drop, if_pos hlt]
  have hl : (cellsV (prV (l.take k))).length = k * 3 := by rw [length_cellsV (prV_all _), prV_len, List.length_take, Nat.min_eq_left (by omega)]
  have e3 : cellsV (prV l) = cellsV (prV (l.take k)) ++ (p.l ++ cellsV (prV (l.drop (k + 1)))) := by
    conv => lhs; rw [e]
    rw [prV_append, cellsV_append]; rfl
  have e4 : cellsV (prV (l.set k q)) = cellsV (prV (l.take k)) ++ (q.l ++ cellsV (prV (l.drop (k + 1)))) := by
    rw [e2, prV_append, cellsV_append]; rfl
  rw [e3, e4, List.set_append_right _ _ (by omega), List.set_append_right _ _ (by omega), hl, show k * 3 + 1 - k * 3 = 1 by omega, show k * 3 + 2 - k * 3 = 2 by omega]
  simp [Pr.l, hk]
theorem Mine.cells {base n c : Nat} {A : Option Addr} {w : World} {l : List Pr} {k : Nat} {p : Pr} (h : Mine base w (.slice A n c) l) (hp : l[k]? = some p) :
    ∃ g, A = some ⟨g, 0, none⟩ ∧ base ≤ g ∧ w.cell? ⟨g, k * 3, none⟩ = some (.string p.k) ∧ w.cell? ⟨g, k * 3 + 1, none⟩ = some (.string p.v) ∧ w.cell? ⟨g, k * 3 + 2, none⟩ = some (.int .i64 p.n) ∧ (w.frozen? ⟨g, k * 3, none⟩ = false ∧ w.frozen? ⟨g, k * 3 + 1, none⟩ = false ∧ w.frozen? ⟨g, k * 3 + 2, none⟩ = false) := by
  obtain ⟨A', c', e, _, _, _, hl⟩ := h.pin
  injection e with e1 e2 e3
  subst e1 e2 e3
  obtain ⟨b, o, rfl, hbs, d0, d1, d2⟩ := hl.at_ hp
  rcases h.2 with ⟨e, _⟩ | ⟨g', cap, cur, e, hb, _⟩
  · cases e
  · injection e with e _ _
    injection e with e
    injection e with e1 e2 _
    subst e1 e2
    rw [Nat.zero_add] at d0 d1 d2
    exact ⟨_, rfl, hb, d0, d1, d2, World.ownsRow.frozenAt h _, World.ownsRow.frozenAt h _, World.ownsRow.frozenAt h _⟩
/-- Two cells of a made list's pair are stored. -/
theorem Mine.putKv {base g n c : Nat} {w : World} {l : List Pr} {k : Nat} {p q : Pr} (h : Mine base w (.slice (some ⟨g, 0, none⟩) n c) l) (hp : l[k]? = some p) (hk : q.k = p.k) :
    Mine base ((w.setCell ⟨g, k * 3 + 1, none⟩ (.string q.v)).setCell ⟨g, k * 3 + 2, none⟩ (.int .i64 q.n)) (.slice (some ⟨g, 0, none⟩) n c) (l.set k q) := by
  have hn : l.length = n := by
    have := h.2
    rcases this with ⟨e, _⟩ | ⟨g', cap, cur, e, _⟩
    · cases e
    · injection e with _ e; exact e.symm
  unfold Mine at h ⊢
  rw [List.length_set, ← prV_set hp hk]
  rw [hn] at h ⊢
  exact (World.ownsRow.stored (World.ownsRow.stored h (k * 3 + 1) (.string q.v)).1 (k * 3 + 2) (.int .i64 q.n)).1
set_option maxRecDepth 100000 in
set_option maxHeartbeats 4000000 in
theorem rput_old (v : Value) (l : List Pr) (key value : ByteArray) (w : World) (h : Pin w v l) (ln : l.length ≤ 3518437208780) (ht : isB l key = true) :
    Calls Try.prog 79 #[v, .string key, .string value] w (Ans w (putL l key value) (.int .i64 (putE l key))) := by
  obtain ⟨A, c, rfl, hA, hc, hcc, hl⟩ := h
  have HF := hide (rat_b A l.length c l key w rfl hl (by omega))
  have HL := hide hl
  clear hl
  obtain ⟨k, hk⟩ : ∃ k, st l key = k := ⟨_, rfl⟩
  have e0 : foundV l key = .tuple #[.int .i64 (k : Nat), .bool true] := by unfold foundV; rw [hk, ht]
  rw [e0] at HF
  obtain ⟨p, hp, hpk, hg, hlt⟩ := isB_some ht
  rw [hk] at hp hlt
  have e1 : putL l key value = l.set k ⟨key, value, IntKind.i64.wrap (p.n + 1)⟩ := by
    unfold putL fullB putP verP behP
    rw [ht, hk, hg]
    simp only [Bool.not_true, Bool.false_and, Bool.false_eq_true, if_false, if_true]
    rw [List.set_eq_take_append_cons_drop, if_pos hlt]
  have e2 : putE l key = 0 := by unfold putE fullB; rw [ht]; simp
  rw [e1, e2]
  clear e0 e1 e2 hk ht hg
  have HP := hide hp
  have HPK := hide (show (⟨key, value, IntKind.i64.wrap (p.n + 1)⟩ : Pr).k = p.k from hpk.symm)
  clear hp hpk
  obtain ⟨V, hV⟩ : ∃ V, IntKind.i64.wrap (p.n + 1) = V := ⟨_, rfl⟩
  rw [hV] at HPK ⊢
  go_enter Try.func79, Try.ntmps79
  go_upto_region 6 with (first
      | (go_at_call 68; (with_reducible refine HF.out.mono ?_); rintro e w0 ⟨rfl, hb1⟩; have HB := hide hb1; clear hb1)
      | (at_builtin; refine wpList_append_mine rfl (.tmp 24) (.tmp 25) rfl rfl (Mine.made (base := w.heap.size) HB.out.size) A l.length c rfl rfl hA (HL.out.below (kept_alloc HB.out _)) (by simp; omega) (kept_alloc HB.out _).size ?_; intro v1 w1 ho1 hb1; have HO := hide (show Mine w.heap.size w1 v1 l from ho1); have HB0 := hide ((kept_alloc HB.out (.cells #[] 47)).grown hb1 (kept_alloc HB.out _).size (fun k hk => by cases hk; exact HB.out.size)); clear ho1 hb1))
  obtain ⟨A1, c1, rfl, -, hc1, hcm, -⟩ := own_form HO.out
  obtain ⟨g, rfl, hbg, d0, d1, d2, f0, f1, f2⟩ := HO.out.cells HP.out
  have HM := hide (HO.out.putKv (q := ⟨key, value, V⟩) HP.out HPK.out)
  have HB2 := hide ((HB0.out.setCell (p := ⟨g, k * 3 + 1, none⟩) hbg (.string value)).setCell (p := ⟨g, k * 3 + 2, none⟩) hbg (.int .i64 V))
  clear HO HB0 HL HF HB HP HPK
  unfold maxLen at hcm
  go_wp2
  go_ret2
  exact ⟨_, rfl, HM.out, HB2.out⟩
theorem rput_any (v : Value) (l : List Pr) (key value : ByteArray) (w : World) (h : Pin w v l) (ln : l.length ≤ 3518437208780) :
    Calls Try.prog 79 #[v, .string key, .string value] w (Ans w (putL l key value) (.int .i64 (putE l key))) := by
  cases ht : isB l key
  · exact rput_new v l key value w h ln ht
  · exact rput_old v l key value w h ln ht
end Go.Proofs.Ytahfpncfkcfogaa
/- Lists whose keys rise: where a key stands, what Put and Delete leave. No condition: nothing here speaks of a program. -/
namespace Go.Proofs.Ytahfpncfkcfogaa
open Go.RowKit
/-- Do the keys rise. -/
def Up (l : List Pr) : Prop := l.Pairwise fun p q => ltB p.k q.k = true
theorem up_of : ∀ {l : List Pr}, (∀ j p q, l[j]? = some p → l[j + 1]? = some q → ltB p.k q.k = true) → Up l
  | [], _ => List.Pairwise.nil
  | p :: r, h => by
    have ih : Up r := up_of (fun j a b ha hb => h (j + 1) a b (by simpa using ha) (by simpa using hb))
    refine List.Pairwise.cons ?_ ih
    intro q hq
    cases r with
    | nil => cases hq
    | cons x r' =>
      have h0 := h 0 p x rfl rfl
      rcases List.mem_cons.1 hq with rfl | hq
      · exact h0
      · exact lt_trans h0 (List.rel_of_pairwise_cons ih hq)
theorem Up.ne {l : List Pr} (h : Up l) : l.Pairwise fun p q => p.k ≠ q.k := h.imp fun {a b} hab e => by rw [e, lt_self] at hab; cases hab
theorem lt_ne {a b : ByteArray} (h : ltB a b = true) : a ≠ b := fun e => by rw [e, lt_self] at h; cases h
theorem lt_not {a b : ByteArray} (h : ltB a b = true) : ltB b a = false := by
  cases h2 : ltB b a
  · rfl
  · have := lt_trans h h2; rw [lt_self] at this; cases this
theorem not_lt {a b : ByteArray} (h : ltB a b = false) (hne : a ≠ b) : ltB b a = true := by
  cases h2 : ltB b a
  · exact absurd (lt_or h h2) hne
  · rfl
/-- Where a key stands in a rising list: ahead of it all are below, from there on none. -/
theorem split_at {l : List Pr} (h : Up l) (key : ByteArray) : ∃ X Y, l = X ++ Y ∧ st l key = X.length ∧ (∀ p ∈ X, ltB p.k key = true) ∧ ∀ p ∈ Y, ltB p.k key = false := by
  induction l with
  | nil => exact ⟨[], [], rfl, rfl, (by simp), (by simp)⟩
  | cons p r ih =>
    obtain ⟨h1, h2⟩ := List.pairwise_cons.1 h
    cases hp : ltB p.k key
    · refine ⟨[], p :: r, rfl, ?_, (by simp), fun q hq => ?_⟩
      · unfold st; rw [List.takeWhile_cons, if_neg (by rw [hp]; simp)]
      · rcases List.mem_cons.1 hq with rfl | hq
        · exact hp
        · cases h3 : ltB q.k key
          · rfl
          · have := lt_trans (h1 q hq) h3; rw [this] at hp; cases hp
    · obtain ⟨X, Y, e, hl, hx, hy⟩ := ih h2
      refine ⟨p :: X, Y, by rw [e]; rfl, ?_, fun q hq => ?_, hy⟩
      · unfold st at hl ⊢; rw [List.takeWhile_cons, if_pos hp, List.length_cons, hl]; rfl
      · rcases List.mem_cons.1 hq with rfl | hq
        · exact hp
        · exact hx q hq
/-- A key that doesn't stand there. -/
theorem not_there {l : List Pr} (h : Up l) {key : ByteArray} (hb : isB l key = false) : ∃ X Y, l = X ++ Y ∧ st l key = X.length ∧ (∀ p ∈ X, ltB p.k key = true) ∧ ∀ p ∈ Y, ltB key p.k = true := by
  obtain ⟨X, Y, e, hl, hx, hy⟩ := split_at h key
  refine ⟨X, Y, e, hl, hx, ?_⟩
  cases Y with
  | nil => simp
  | cons y Y =>
    have hy0 : ltB key y.k = true := by
      refine not_lt (hy y (by simp)) fun hk => ?_
      unfold isB at hb
      rw [hl, e, List.getElem?_append_right (Nat.le_refl _), Nat.sub_self] at hb
      have : eqB y.k key = false := by simpa using hb
      rw [(eq_iff _ _).2 hk] at this; cases this
    intro p hp
    rcases List.mem_cons.1 hp with rfl | hp
    · exact hy0
    · rw [e] at h
      exact lt_trans hy0 (List.rel_of_pairwise_cons (List.pairwise_append.1 h).2.1 hp)
/-- A key that stands there. -/
theorem there {l : List Pr} (h : Up l) {key : ByteArray} (hb : isB l key = true) : ∃ X p Y, l = X ++ p :: Y ∧ st l key = X.length ∧ p.k = key ∧ getP l key = p ∧ (∀ q ∈ X, ltB q.k key = true) ∧ ∀ q ∈ Y, ltB key q.k = true := by
  obtain ⟨X, Y, e, hl, hx, hy⟩ := split_at h key
  obtain ⟨p, hp, hk, hg, _⟩ := isB_some hb
  rw [hl, e, List.getElem?_append_right (Nat.le_refl _), Nat.sub_self] at hp
  cases Y with
  | nil => simp at hp
  | cons y Y =>
    have : y = p := by simpa using hp
    subst this
    refine ⟨X, y, Y, e, hl, hk, hg, hx, fun q hq => ?_⟩
    rw [e] at h
    have := List.rel_of_pairwise_cons (List.pairwise_append.1 h).2.1 hq
    rw [hk] at this; exact this
theorem not_mem {l : List Pr} (h : Up l) {key : ByteArray} (hb : isB l key = false) : ∀ p ∈ l, p.k ≠ key := by
  obtain ⟨X, Y, e, _, hx, hy⟩ := not_there h hb
  intro p hp
  rw [e, List.mem_append] at hp
  rcases hp with hp | hp
  · exact lt_ne (hx p hp)
  · exact (lt_ne (hy p hp)).symm
theorem is_not {l : List Pr} {key : ByteArray} (h : ∀ p ∈ l, p.k ≠ key) : isB l key = false := by
  cases hb : isB l key
  · rfl
  · obtain ⟨p, hp, hk, _⟩ := isB_some hb
    exact absurd hk (h p (List.mem_of_getElem? hp))
theorem get_mem {l : List Pr} (h : Up l) {p : Pr} (hp : p ∈ l) : isB l p.k = true ∧ getP l p.k = p := by
  cases hb : isB l p.k
  · exact absurd rfl (not_mem h hb p hp)
  · refine ⟨rfl, ?_⟩
    obtain ⟨X, q, Y, e, _, hk, hg, hx, hy⟩ := there h hb
    rw [hg]
    rw [e, List.mem_append, List.mem_cons] at hp
    rcases hp with hp | hp | hp
    · exact absurd rfl (lt_ne (hx p hp))
    · exact hp.symm
    · exact absurd rfl (lt_ne (hy p hp))
theorem get_is {l : List Pr} {key : ByteArray} (hb : isB l key = true) : getP l key ∈ l ∧ (getP l key).k = key := by
  obtain ⟨p, hp, hk, hg, _⟩ := isB_some hb
  rw [hg]
  exact ⟨List.mem_of_getElem? hp, hk⟩
/-! ### What is put, taken out -/
theorem put_new {l : List Pr} {key value : ByteArray} {X Y : List Pr} (hb : isB l key = false) (e : l = X ++ Y) (hl : st l key = X.length) : putP l key value = X ++ ⟨key, value, 1⟩ :: Y := by
  unfold putP verP behP
  rw [hb, hl, e]
  simp
theorem put_old {l : List Pr} {key value : ByteArray} {X Y : List Pr} {p : Pr} (hb : isB l key = true) (e : l = X ++ p :: Y) (hl : st l key = X.length) (hg : getP l key = p) : putP l key value = X ++ ⟨key, value, IntKind.i64.wrap (p.n + 1)⟩ :: Y := by
  unfold putP verP behP
  rw [hb, hl, hg, e]
  simp
theorem del_old {l : List Pr} {key : ByteArray} {X Y : List Pr} {p : Pr} (hb : isB l key = true) (e : l = X ++ p :: Y) (hl : st l key = X.length) : delP l key = X ++ Y := by
  unfold delP
  rw [hb, hl, e]
  simp
theorem del_none {l : List Pr} {key : ByteArray} (hb : isB l key = false) : delP l key = l := by unfold delP; rw [hb]; simp
theorem up_mid {X Y : List Pr} {q : Pr} (h : Up (X ++ Y)) (hx : ∀ p ∈ X, ltB p.k q.k = true) (hy : ∀ p ∈ Y, ltB q.k p.k = true) : Up (X ++ q :: Y) := by
  obtain ⟨h1, h2, h3⟩ := List.pairwise_append.1 h
  refine List.pairwise_append.2 ⟨h1, List.pairwise_cons.2 ⟨hy, h2⟩, fun a ha b hb => ?_⟩
  rcases List.mem_cons.1 hb with rfl | hb
  · exact hx a ha
  · exact h3 a ha b hb
theorem up_out {X Y : List Pr} {p : Pr} (h : Up (X ++ p :: Y)) : Up (X ++ Y) :=
  h.sublist (List.Sublist.append_left (List.sublist_cons_self _ _) _)
theorem Up.put {l : List Pr} (h : Up l) (key value : ByteArray) : Up (putP l key value) := by
  cases hb : isB l key
  · obtain ⟨X, Y, e, hl, hx, hy⟩ := not_there h hb
    rw [put_new hb e hl]
    rw [e] at h
    exact up_mid h hx hy
  · obtain ⟨X, p, Y, e, hl, hk, hg, hx, hy⟩ := there h hb
    rw [put_old hb e hl hg]
    rw [e] at h
    exact up_mid (up_out h) hx hy
theorem Up.del {l : List Pr} (h : Up l) (key : ByteArray) : Up (delP l key) := by
  cases hb : isB l key
  · rw [del_none hb]; exact h
  · obtain ⟨X, p, Y, e, hl, hk, hg, hx, hy⟩ := there h hb
    rw [del_old hb e hl]
    rw [e] at h
    exact up_out h
/-- Put, where the key wasn't: one more. -/
theorem perm_new {l : List Pr} (h : Up l) {key value : ByteArray} (hb : isB l key = false) : (putP l key value).Perm (⟨key, value, 1⟩ :: l) := by
  obtain ⟨X, Y, e, hl, _, _⟩ := not_there h hb
  rw [put_new hb e hl, e]
  exact List.perm_middle
/-- Put and Delete, where it was: the others stay. -/
theorem perm_old {l : List Pr} (h : Up l) {key : ByteArray} (value : ByteArray) (hb : isB l key = true) :
    ∃ R, l.Perm (getP l key :: R) ∧ (putP l key value).Perm (⟨key, value, IntKind.i64.wrap ((getP l key).n + 1)⟩ :: R) ∧ (delP l key).Perm R ∧ ∀ q ∈ R, q.k ≠ key := by
  obtain ⟨X, p, Y, e, hl, hk, hg, hx, hy⟩ := there h hb
  refine ⟨X ++ Y, ?_, ?_, ?_, fun q hq => ?_⟩
  · rw [hg]
    conv => lhs; rw [e]
    exact List.perm_middle
  · rw [put_old hb e hl hg, hg]; exact List.perm_middle
  · rw [del_old hb e hl]
  · rcases List.mem_append.1 hq with hq | hq
    · exact lt_ne (hx q hq)
    · exact (lt_ne (hy q hq)).symm
theorem mem_put {l : List Pr} (h : Up l) {key value : ByteArray} {q : Pr} (hq : q ∈ putP l key value) : q.k = key ∨ q ∈ l := by
  cases hb : isB l key
  · have := (perm_new h hb).mem_iff.1 hq
    rcases List.mem_cons.1 this with rfl | this
    · exact .inl rfl
    · exact .inr this
  · obtain ⟨R, h1, h2, _, _⟩ := perm_old h value hb
    have := h2.mem_iff.1 hq
    rcases List.mem_cons.1 this with rfl | this
    · exact .inl rfl
    · exact .inr (h1.mem_iff.2 (List.mem_cons_of_mem _ this))
theorem put_keeps {l : List Pr} (h : Up l) {key value : ByteArray} {q : Pr} (hq : q ∈ l) (hk : q.k ≠ key) : q ∈ putP l key value := by
  cases hb : isB l key
  · exact (perm_new h hb).mem_iff.2 (List.mem_cons_of_mem _ hq)
  · obtain ⟨R, h1, h2, _, _⟩ := perm_old h value hb
    rcases List.mem_cons.1 (h1.mem_iff.1 hq) with e | hR
    · exact absurd (by rw [e]; exact (get_is hb).2) hk
    · exact h2.mem_iff.2 (List.mem_cons_of_mem _ hR)
theorem put_there {l : List Pr} {key value : ByteArray} : (⟨key, value, verP l key⟩ : Pr) ∈ putP l key value := by
  unfold putP; simp
theorem mem_del {l : List Pr} (h : Up l) {key : ByteArray} {q : Pr} (hq : q ∈ delP l key) : q ∈ l := by
  cases hb : isB l key
  · rwa [del_none hb] at hq
  · obtain ⟨R, h1, _, h3, _⟩ := perm_old h key hb
    exact h1.mem_iff.2 (List.mem_cons_of_mem _ (h3.mem_iff.1 hq))
theorem del_keeps {l : List Pr} (h : Up l) {key : ByteArray} {q : Pr} (hq : q ∈ l) (hk : q.k ≠ key) : q ∈ delP l key := by
  cases hb : isB l key
  · rwa [del_none hb]
  · obtain ⟨R, h1, _, h3, _⟩ := perm_old h key hb
    rcases List.mem_cons.1 (h1.mem_iff.1 hq) with e | hR
    · exact absurd (by rw [e]; exact (get_is hb).2) hk
    · exact h3.mem_iff.2 hR
/-- Another key's pair is as it was. -/
theorem get_other {l m : List Pr} (h : Up l) (hm : Up m) {key other : ByteArray} (hne : key ≠ other) (hin : ∀ q ∈ m, q.k = key ∨ q ∈ l) (hk : ∀ q ∈ l, q.k ≠ key → q ∈ m) : isB m other = isB l other ∧ getP m other = getP l other := by
  cases hb : isB l other
  · have : isB m other = false := is_not fun q hq => by
      rcases hin q hq with e | hq
      · rw [e]; exact hne
      · exact not_mem h hb q hq
    exact ⟨this, by rw [getP_none this, getP_none hb]⟩
  · obtain ⟨h1, h2⟩ := get_is hb
    have h3 := hk _ h1 (by rw [h2]; exact hne.symm)
    have := get_mem hm h3
    rw [h2] at this
    exact this
theorem put_other {l : List Pr} (h : Up l) {key other value : ByteArray} (hne : key ≠ other) : isB (putP l key value) other = isB l other ∧ getP (putP l key value) other = getP l other :=
  get_other h (h.put key value) hne (fun _ hq => mem_put h hq) (fun _ hq hk => put_keeps h hq hk)
theorem del_other {l : List Pr} (h : Up l) {key other : ByteArray} (hne : key ≠ other) : isB (delP l key) other = isB l other ∧ getP (delP l key) other = getP l other :=
  get_other h (h.del key) hne (fun _ hq => .inr (mem_del h hq)) (fun _ hq hk => del_keeps h hq hk)
theorem put_self {l : List Pr} (h : Up l) (key value : ByteArray) : isB (putP l key value) key = true ∧ getP (putP l key value) key = ⟨key, value, verP l key⟩ := get_mem (h.put key value) put_there
/-- Put where it wasn't, and taken out. -/
theorem del_put {l : List Pr} (h : Up l) {key value : ByteArray} (hb : isB l key = false) : delP (putP l key value) key = l := by
  obtain ⟨X, Y, e, hl, hx, hy⟩ := not_there h hb
  have hs := put_self h key value
  have e2 : putP l key value = X ++ ⟨key, value, 1⟩ :: Y := put_new hb e hl
  have hst : st (putP l key value) key = X.length := by
    refine st_is (fun i hi => ?_) (fun p hp => ?_)
    · rw [e2, List.getElem?_append_left hi]
      exact ⟨_, List.getElem?_eq_getElem hi, hx _ (List.getElem_mem hi)⟩
    · rw [e2, List.getElem?_append_right (Nat.le_refl _), Nat.sub_self] at hp
      have : (⟨key, value, 1⟩ : Pr) = p := by simpa using hp
      subst this
      exact lt_self key
  rw [del_old hs.1 e2 hst]; exact e.symm
/-- A rising list of pairs that may be stored, not too long, is right. -/
theorem right_of {l : List Pr} (h : Up l) (hm : ∀ p ∈ l, mayB p = true) (hl : l.length ≤ 32) : rightB l = true := right_true ⟨hl, fun j hj => by
  have hp : l[j]? = some l[j] := List.getElem?_eq_getElem hj
  unfold okAt
  rw [hp]
  simp only [hm _ (List.getElem_mem hj), Bool.true_and]
  rcases Nat.eq_zero_or_pos j with h0 | h0
  · subst h0; rfl
  · have hq : l[j - 1]? = some l[j - 1] := List.getElem?_eq_getElem (by omega)
    rw [hq]
    have := List.pairwise_iff_getElem.1 h (j - 1) j (by omega) hj (by omega)
    simp [this]⟩
end Go.Proofs.Ytahfpncfkcfogaa
/- Slices of structs that come in, whatever the struct; pairs. No condition. -/
namespace Go.Proofs.Ytahfpncfkcfogaa
set_option maxRecDepth 100000
open Go.ChangeShapes Go.WideShapes Go.ChangeAt Go.RowKit Go.Joins
theorem list_of {α : Type} {p : Nat → α → Prop} : ∀ n, (∀ j, j < n → ∃ y, p j y) → ∃ l : List α, l.length = n ∧ ∀ j y, l[j]? = some y → p j y
  | 0, _ => ⟨[], rfl, fun j y h => by simp at h⟩
  | n + 1, h => by
    obtain ⟨l, hl, hp⟩ := list_of n (fun j hj => h j (by omega))
    obtain ⟨y, hy⟩ := h n (by omega)
    refine ⟨l ++ [y], by simp [hl], fun j z hz => ?_⟩
    rcases Nat.lt_or_ge j n with h1 | h1
    · rw [List.getElem?_append_left (by omega)] at hz; exact hp j z hz
    · rw [List.getElem?_append_right (by omega), hl] at hz
      have h2 : j = n := by
        rcases Nat.eq_or_lt_of_le h1 with h2 | h2
        · exact h2.symm
        · rw [List.getElem?_eq_none (by simp; omega)] at hz; cases hz
      subst h2
      rw [Nat.sub_self] at hz
      have : y = z := by simpa using hz
      subst this; exact hy
theorem weights_all {H : Type} {P : Program} {e : TypeId} : ∀ {ds : List (DataW H)} {d : DataW H}, d ∈ ds → ∀ n ∈ d.weights P e, n ∈ DataW.weightsAll P e ds
  | x :: r, d, hd, n, hn => by
    rw [DataW.weightsAll, List.mem_append]
    rcases List.mem_cons.1 hd with rfl | hd
    · exact .inl hn
    · exact .inr (weights_all hd n hn)
/-- A slice of structs that came in: what each is read as, that they lie. -/
theorem els_in {α H : Type} {enc : TypeId × Value → H} {P : Program} {W : World} {t e : TypeId} {m by' : Nat} (f : α → List Value) (Ok : α → Prop) (hu : P.underlying t = some (.slice e)) (hc : P.cellsOf e = m) (hm0 : 0 < m) (hb : P.bytesOf e = by')
    (rd : ∀ {fuel : Nat} {cs : List Value} {x : DataW H × List MemPlace}, DataW.trod enc P W 0 (fun _ => true) true fuel e cs = some x → (∀ n ∈ x.1.weights P e, n ≤ reachBytes) → ∃ y : α, cs = f y ∧ Ok y)
    {A : Option Addr} {n c fuel : Nat} {x : DataW H × List MemPlace} (hf : DataW.trod enc P W 0 (fun _ => true) true fuel t [.slice A n c] = some x) (hw : ∀ n ∈ x.1.weights P t, n ≤ reachBytes) :
    ∃ l : List α, l.length = n ∧ n ≤ c ∧ c ≤ maxLen ∧ c * by' ≤ 140737488351232 ∧ (A = none → c = 0) ∧ (∀ y ∈ l, Ok y) ∧ Els m W A (l.map f) := by
  rcases Go.Deep.open_slice hu hf with ⟨hcs, _⟩ | ⟨a, len, cap, m', nf, D, Pl, hcs, _, hl, hm, hmm, hx, hi⟩
  · injection hcs with hcs _
    injection hcs with h1 h2 h3
    subst h1 h2 h3
    exact ⟨[], rfl, Nat.le_refl _, by unfold maxLen; omega, by omega, fun _ => rfl, fun _ h => absurd h (by simp), Els.nil_⟩
  · injection hcs with hcs _
    injection hcs with h1 h2 h3
    subst h1 h2 h3
    have hmc : m' = c := by simpa using hmm
    subst hmc
    have hx1 := congrArg Prod.fst hx
    dsimp only at hx1
    have hroom : m' * by' ≤ 140737488351232 := by
      have := hw ((((List.range n).map D).length + ((List.range (m' - n)).map fun j => D (n + j)).length) * P.bytesOf e) (by rw [hx1]; unfold DataW.weights; rw [hu]; exact List.mem_cons_self ..)
      rw [hb] at this
      simp only [List.length_map, List.length_range] at this
      rw [show n + (m' - n) = m' by omega] at this
      exact this
    have each : ∀ j, j < n → ∃ y : α, Ok y ∧ ∃ b off, a = ⟨b, off, none⟩ ∧ b < W.heap.size ∧ ∀ i, i < m → W.cell? ⟨b, off + j * m + i, none⟩ = (f y)[i]? := by
      intro j hj
      obtain ⟨cs', hc', ht'⟩ := hi j (by omega)
      rw [hc] at hc'
      obtain ⟨_, hlen, hat⟩ := World.cells?_some hc'
      obtain ⟨y, rfl, ok⟩ := rd ht' fun k hk => by
        apply hw
        rw [hx1]
        unfold DataW.weights
        rw [hu]
        refine List.mem_cons_of_mem _ (List.mem_append_left _ (weights_all (d := D j) ?_ k hk))
        exact List.mem_map.2 ⟨j, List.mem_range.2 hj, rfl⟩
      have hsp : a.spot = none := by
        obtain ⟨cs0, hc0, ht0⟩ := hi 0 (by omega)
        rw [hc] at hc0
        obtain ⟨_, hlen0, hat0⟩ := World.cells?_some hc0
        have h0 := hat0 0 (by omega)
        rw [List.getElem?_eq_getElem (by omega)] at h0
        have := World.cell?_spot h0
        unfold Addr.add at this
        simpa using this
      obtain ⟨b, off, spot⟩ := a
      obtain rfl : spot = none := hsp
      refine ⟨y, ok, b, off, rfl, ?_, fun i hi => ?_⟩
      · have a0 := hat 0 (by omega)
        rw [Go.WideShapes.add_plain, Go.WideShapes.add_plain, List.getElem?_eq_getElem (by omega)] at a0
        rcases Nat.lt_or_ge b W.heap.size with h1 | h1
        · exact h1
        · simp [World.cell?, Array.getElem?_eq_none h1] at a0
      · have a0 := hat i hi
        rw [Go.WideShapes.add_plain, Go.WideShapes.add_plain] at a0
        exact a0
    obtain ⟨l, hln, hl2⟩ := list_of n each
    refine ⟨l, hln, hl, hm, hroom, (fun h => by cases h), fun y hy => ?_, fun hp => ?_⟩
    · obtain ⟨j, hj⟩ := List.getElem?_of_mem hy
      exact (hl2 j y hj).1
    · rw [List.length_map] at hp
      obtain ⟨_, b, off, rfl, hb', _⟩ := hl2 0 l[0] (List.getElem?_eq_getElem hp)
      refine ⟨b, off, rfl, hb', fun k x hk i hi => ?_⟩
      rw [List.getElem?_map, Option.map_eq_some_iff] at hk
      obtain ⟨y, hy, rfl⟩ := hk
      obtain ⟨_, b2, off2, e2, _, h2⟩ := hl2 k y hy
      cases e2
      exact h2 i hi
theorem one_cell {α : Type} {l : List α} {n : Nat} {x : α} (h : (l.drop n).take 1 = [x]) : l[n]? = some x := by
  rcases Nat.lt_or_ge n l.length with h1 | h1
  · rw [List.drop_eq_getElem_cons h1] at h
    injection h with h _
    rw [List.getElem?_eq_getElem h1, h]
  · rw [List.drop_of_length_le h1] at h; cases h
theorem Try.cells47 : Try.prog.cellsOf 47 = 3 := by kernel_rfl
theorem Try.bytes47 : Try.prog.bytesOf 47 = 40 := by kernel_rfl
theorem Try.cells3 : Try.prog.cellsOf 3 = 1 := by kernel_rfl
theorem Try.cells9 : Try.prog.cellsOf 9 = 1 := by kernel_rfl
/-- A number that an int holds. -/
def I64 (n : Int) : Prop := -9223372036854775808 ≤ n ∧ n ≤ 9223372036854775807
theorem pair_cells {H : Type} {enc : TypeId × Value → H} {W : World} {fuel : Nat} {cs : List Value} {x : DataW H × List MemPlace}
    (ht : DataW.trod enc Try.prog W 0 (fun _ => true) true fuel 47 cs = some x) : ∃ y : Pr, cs = y.l ∧ I64 y.n := by
  obtain ⟨ys, n', _, _, hlen, hyl, hfs⟩ := DataW.trod_struct Try.underlying47 ht
  rw [Try.cells47] at hlen
  have hyl3 : ys.length = 3 := hyl
  obtain ⟨y0, y1, y2, rfl⟩ : ∃ y0 y1 y2, ys = [y0, y1, y2] := by
    match ys, hyl3 with
    | [y0, y1, y2], _ => exact ⟨y0, y1, y2, rfl⟩
  obtain ⟨c0, c1, c2, rfl⟩ : ∃ c0 c1 c2, cs = [c0, c1, c2] := by
    match cs, hlen with
    | [c0, c1, c2], _ => exact ⟨c0, c1, c2, rfl⟩
  have g0 := hfs 0 _ rfl
  have g1 := hfs 1 _ rfl
  have g2 := hfs 2 _ rfl
  clear hfs
  change DataW.trod enc Try.prog W 0 (fun _ => true) true n' 9 (([c0, c1, c2].drop 0).take (Try.prog.cellsOf 9)) = some y0 at g0
  change DataW.trod enc Try.prog W 0 (fun _ => true) true n' 9 (([c0, c1, c2].drop 1).take (Try.prog.cellsOf 9)) = some y1 at g1
  change DataW.trod enc Try.prog W 0 (fun _ => true) true n' 3 (([c0, c1, c2].drop 2).take (Try.prog.cellsOf 3)) = some y2 at g2
  rw [Try.cells9] at g0 g1
  rw [Try.cells3] at g2
  obtain ⟨a, e0, _, _⟩ := DataW.trod_string Try.underlying9 g0
  obtain ⟨b, e1, _, _⟩ := DataW.trod_string Try.underlying9 g1
  obtain ⟨k, e2, _, w2⟩ := DataW.trod_int Try.underlying3 g2
  simp at e0 e1 e2
  subst e0 e1 e2
  exact ⟨⟨a, b, k⟩, rfl, bounds_i64 w2⟩
/-- A slice of pairs that came in. -/
structure PairsIn (w : World) (A : Option Addr) (n c : Nat) (l : List Pr) : Prop where
  len : l.length = n
  le : n ≤ c
  room : c ≤ 3518437208780
  nil : A = none → c = 0
  ok : ∀ y ∈ l, I64 y.n
  lies : Prs w A l
theorem pairs_in {H : Type} {enc : TypeId × Value → H} {W : World} {A : Option Addr} {n c : Nat} {d : DataW H} {p : List MemPlace} {ts : List TypeId} {ds : List (DataW H)} {j : Nat}
    (h : DataW.Trod enc Try.prog W 0 (fun _ => true) true 22 (.slice A n c) d p) (hsz : (DataW.weightsEach Try.prog ts ds).all (· ≤ reachBytes) = true) (ht : ts[j]? = some 22) (hd : ds[j]? = some d) : ∃ l, PairsIn W A n c l := by
  obtain ⟨fuel, hf⟩ := h
  obtain ⟨l, h1, h2, _, h4, h5, h6, h7⟩ := els_in Pr.l (fun y => I64 y.n) Try.underlying22 Try.cells47 (by omega) Try.bytes47 (fun ht _ => pair_cells ht) hf (fun n hn => by
    have := List.all_eq_true.1 hsz _ (DataW.weights_mem_each ht hd n hn)
    simpa using this)
  exact ⟨l, h1, h2, by omega, h5, h6, h7⟩
end Go.Proofs.Ytahfpncfkcfogaa
/- What is said of spans, as plain facts. No condition: nothing here speaks of a program. -/
namespace Go.Proofs.Ytahfpncfkcfogaa
open Go.RowKit
theorem next_nil (y : ByteArray) : nilB (nextT y) = false := by
  unfold nilB nextT; rw [next_list]; cases y.toList <;> rfl
theorem s_le_not (a b : ByteArray) : (ltB a b || eqB a b) = !ltB b a := by
  rw [Bool.eq_iff_iff]
  simp [rk_iff (L := [a, b]), rk_inj (L := [a, b])]
  omega
theorem lt_next (x k : ByteArray) : ltB x (nextT k) = !ltB k x := by unfold ltB nextT; rw [next_list, less_next]
theorem in_next (x k : ByteArray) : inB x (nextT k) = !ltB k x := by unfold inB; rw [next_nil, lt_next, Bool.false_or]
theorem end_next (k h : ByteArray) : endB (nextT k) h = inB k h := by
  unfold endB inB; rw [next_nil, s_le_not, lt_next, Bool.not_not, Bool.not_false, Bool.true_and]
theorem point_em (k : ByteArray) : emB k (nextT k) = false := by unfold emB; rw [in_next, lt_self]; rfl
theorem of_has (k : ByteArray) : hasB k (nextT k) k = true := by unfold hasB; rw [in_next, lt_self]; rfl
theorem of_cov (lo hi k : ByteArray) : covB lo hi k (nextT k) = hasB lo hi k := by unfold covB hasB; rw [point_em, end_next, Bool.false_or]
theorem of_meet (lo hi k : ByteArray) : meetB lo hi k (nextT k) = hasB lo hi k := by
  unfold meetB
  rw [point_em, in_next, Bool.eq_iff_iff]
  simp [hasB, emB, inB, rk_none (L := [nilT, lo, hi, k]), rk_iff (L := [nilT, lo, hi, k])]
  omega
theorem point_meet (a b : ByteArray) : meetB a (nextT a) b (nextT b) = eqB a b := by
  unfold meetB
  rw [point_em, point_em, in_next, in_next, Bool.eq_iff_iff]
  simp [rk_iff (L := [a, b]), rk_inj (L := [a, b])]
  omega
theorem has_ref (lo hi k : ByteArray) : hasB lo hi k = rhasB lo hi k := rfl
theorem em_ref (lo hi : ByteArray) : emB lo hi = remB lo hi := by
  rw [Bool.eq_iff_iff]
  simp [emB, inB, remB, leB, rk_none (L := [nilT, lo, hi]), rk_iff (L := [nilT, lo, hi]), rk_inj (L := [nilT, lo, hi])]
  omega
theorem meet_ref (la ha lb hb : ByteArray) : meetB la ha lb hb = rmeetB la ha lb hb := by
  rw [Bool.eq_iff_iff]
  simp [meetB, emB, inB, rmeetB, remB, leB, rk_none (L := [nilT, la, ha, lb, hb]), rk_iff (L := [nilT, la, ha, lb, hb]), rk_inj (L := [nilT, la, ha, lb, hb])]
  omega
theorem cov_ref (la ha lb hb : ByteArray) : covB la ha lb hb = rcovB la ha lb hb := by
  rw [Bool.eq_iff_iff]
  simp [covB, endB, emB, inB, rcovB, remB, leB, rk_none (L := [nilT, la, ha, lb, hb]), rk_iff (L := [nilT, la, ha, lb, hb]), rk_inj (L := [nilT, la, ha, lb, hb])]
  omega
theorem max_swap (a b : ByteArray) : maxT a b = maxT b a := by
  unfold maxT
  cases h : ltB a b <;> cases h' : ltB b a
  · rw [lt_or h h']
  · rfl
  · rfl
  · have := lt_trans h h'; rw [lt_self] at this; cases this
theorem end_or {a b : ByteArray} (h : endB a b = endB b a) : a = b := by
  rw [← eq_iff]
  unfold endB at h
  revert h
  rw [Bool.eq_iff_iff]
  simp [rk_none (L := [nilT, a, b]), rk_iff (L := [nilT, a, b]), rk_inj (L := [nilT, a, b])]
  omega
theorem min_swap (a b : ByteArray) : minT a b = minT b a := by
  unfold minT
  cases h : endB a b <;> cases h' : endB b a
  · rw [end_or (h.trans h'.symm)]
  · rfl
  · rfl
  · rw [end_or (h.trans h'.symm)]
theorem end_no (a b : ByteArray) : (nilB a || (!nilB b && ltB b a)) = (!endB a b || eqB a b && nilB a) := by
  rw [Bool.eq_iff_iff]
  simp [endB, rk_none (L := [nilT, a, b]), rk_iff (L := [nilT, a, b]), rk_inj (L := [nilT, a, b])]
  omega
theorem min_pick (a b : ByteArray) : (if (nilB a || (!nilB b && ltB b a)) = true then b else a) = minT a b := by
  rw [end_no]
  unfold minT
  cases h : endB a b
  · rfl
  · by_cases h' : eqB a b = true
    · rw [(eq_iff a b).1 h']; split <;> rfl
    · rw [Bool.not_eq_true] at h'; rw [h']; rfl
theorem both_has (la ha lb hb k : ByteArray) : hasB (maxT la lb) (minT ha hb) k = (hasB la ha k && hasB lb hb k) := by
  unfold maxT minT
  cases h1 : ltB la lb <;> cases h2 : endB ha hb
  all_goals
    rw [Bool.eq_iff_iff]
    simp [endB, hasB, inB, rk_none (L := [nilT, la, ha, lb, hb, k]), rk_iff (L := [nilT, la, ha, lb, hb, k]), rk_inj (L := [nilT, la, ha, lb, hb, k])] at h1 h2 ⊢
    omega
theorem meet_both (la ha lb hb : ByteArray) : meetB la ha lb hb = (!emB la ha && (!emB lb hb && !emB (maxT la lb) (minT ha hb))) := by
  unfold maxT minT
  cases h1 : ltB la lb <;> cases h2 : endB ha hb
  all_goals
    rw [Bool.eq_iff_iff]
    simp [endB, meetB, emB, inB, rk_none (L := [nilT, la, ha, lb, hb]), rk_iff (L := [nilT, la, ha, lb, hb]), rk_inj (L := [nilT, la, ha, lb, hb])] at h1 h2 ⊢
    omega
theorem has_meet (la ha lb hb k : ByteArray) : (hasB la ha k && hasB lb hb k && !meetB la ha lb hb) = false := by
  rw [Bool.eq_iff_iff]
  simp [hasB, meetB, emB, inB, rk_none (L := [nilT, la, ha, lb, hb, k]), rk_iff (L := [nilT, la, ha, lb, hb, k])]
  omega
theorem cov_has (la ha lb hb k : ByteArray) : (covB la ha lb hb && hasB lb hb k && !hasB la ha k) = false := by
  rw [Bool.eq_iff_iff]
  simp [hasB, covB, endB, emB, inB, rk_none (L := [nilT, la, ha, lb, hb, k]), rk_iff (L := [nilT, la, ha, lb, hb, k]), rk_inj (L := [nilT, la, ha, lb, hb, k])]
  omega
theorem em_has (lo hi k : ByteArray) : (emB lo hi && hasB lo hi k) = false := by
  rw [Bool.eq_iff_iff]
  simp [hasB, emB, inB, rk_none (L := [nilT, lo, hi, k]), rk_iff (L := [nilT, lo, hi, k])]
  omega
theorem meet_swap (la ha lb hb : ByteArray) : meetB la ha lb hb = meetB lb hb la ha := by
  unfold meetB
  cases emB la ha <;> cases emB lb hb <;> cases inB la hb <;> cases inB lb ha <;> rfl
theorem meet_self (lo hi : ByteArray) : meetB lo hi lo hi = !emB lo hi := by
  unfold meetB emB
  cases inB lo hi <;> rfl
theorem cov_self (lo hi : ByteArray) : covB lo hi lo hi = true := by
  rw [Bool.eq_iff_iff]
  simp [covB, endB, emB, inB, rk_none (L := [nilT, lo, hi]), rk_iff (L := [nilT, lo, hi]), rk_inj (L := [nilT, lo, hi])]
theorem cov_on (la ha lb hb lc hc : ByteArray) : (!covB la ha lb hb || (!covB lb hb lc hc || (covB la ha lc hc || emB lb hb))) = true := by
  rw [Bool.eq_iff_iff]
  simp [covB, endB, emB, inB, rk_none (L := [nilT, la, ha, lb, hb, lc, hc]), rk_iff (L := [nilT, la, ha, lb, hb, lc, hc]), rk_inj (L := [nilT, la, ha, lb, hb, lc, hc])]
  omega
end Go.Proofs.Ytahfpncfkcfogaa
