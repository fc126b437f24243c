/- Proved: the law DepsBack returns true. Conditions: none beyond the row's own. -/
import Derived.Test.YtpngcocmjbkfgaaFrame
import Derived.Test.YtpngcocmjbkfgaaRuns
import Derived.Test.YtpngcocmjbkfgaaArgs8
import Derived.Test.YtpngcocmjbkfgaaWithin
import Derived.Test.YtpngcocmjbkfgaaPutc
import Derived.Test.YtpngcocmjbkfgaaGetc
import Derived.Test.YtpngcocmjbkfgaaRef
import Derived.Deep.DeepCutAuto
namespace Go.Proofs.Ytpngcocmjbkfgaa.depsBack
open Go.ChangeShapes Go.WideShapes Go.ChangeAt Go.RowKit
/-- After Put: what came in, the bytes. -/
structure Bk (W w : World) (M : Nat) (al : List Int) (A : Option Addr) (zs : List Int) : Prop where
  low : Below W.heap.size W w
  a : Row w W.heap.size 25 (cA al)
  b : Deep w M A zs
  lo : W.heap.size < M
  sz : M ≤ w.heap.size
section
variable {W w w' : World} {M : Nat} {al zs : List Int} {A : Option Addr} {g h7 : Nat} {I : Nat} {E : Int} {V : List Int}
theorem Bk.grown (h : Bk W w M al A zs) {row : Option Nat} (hg : w.grownBy w' row) (hr : ∀ k, row = some k → M ≤ k) : Bk W w' M al A zs :=
  have h1 := h.lo
  have h2 := h.sz
  have h3 := hg.size
  ⟨h.low.grown hg (by omega) (fun k e => by have := hr k e; omega), h.a.grown hg (fun e => by have := hr _ e.symm; omega), h.b.keep (fun k hk => hg.block k (by omega) (fun e => by have := hr _ e.symm; omega)), h1, by omega⟩
theorem Bk.below (h : Bk W w M al A zs) (hb : Below w.heap.size w w') : Bk W w' M al A zs := h.grown (grown_below hb) (fun k e => by cases e)
/-- .. the first reader and what it gave. -/
structure Bg (W w : World) (M : Nat) (al : List Int) (A : Option Addr) (zs : List Int) (g : Nat) (I : Nat) (E : Int) (h7 : Nat) (V : List Int) : Prop where
  k : Bk W w M al A zs
  r : Rdr 67 w g g zs I E
  v : Row w h7 25 (cA V)
  lo : M ≤ g
  hi : g < h7
theorem Bg.grown (h : Bg W w M al A zs g I E h7 V) {q : Nat} (hg : w.grownBy w' (some q)) (hq : h7 < q) : Bg W w' M al A zs g I E h7 V :=
  have h1 := h.lo
  have h2 := h.hi
  ⟨h.k.grown hg (fun k e => by injection e; omega), h.r.far hg (by omega) (by omega), h.v.grown hg (fun e => by injection e; omega), h1, h2⟩
theorem Bg.below (h : Bg W w M al A zs g I E h7 V) (hb : Below w.heap.size w w') : Bg W w' M al A zs g I E h7 V :=
  ⟨h.k.below hb, h.r.below hb, h.v.below hb h.v.lt, h.lo, h.hi⟩
/-- .. the second one and what it gave. -/
structure Bt (W w : World) (M : Nat) (al : List Int) (A : Option Addr) (zs : List Int) (g : Nat) (I : Nat) (E : Int) (h7 : Nat) (V : List Int) (q : Nat) (ys : List Int) (J : Nat) (F : Int) (h9 : Nat) : Prop where
  g : Bg W w M al A zs g I E h7 V
  r : Rdr 67 w q q ys J F
  t : Row w h9 25 (cA zero8)
theorem Bt.below {q J h9 : Nat} {F : Int} {ys : List Int} (h : Bt W w M al A zs g I E h7 V q ys J F h9) (hb : Below w.heap.size w w') : Bt W w' M al A zs g I E h7 V q ys J F h9 :=
  ⟨h.g.below hb, h.r.below hb, h.t.below hb h.t.lt⟩
theorem Bg.done (h : Bg W w M al A zs g I E h7 V) (hg : w.grownBy w' (some g)) : Below W.heap.size W w' :=
  have h1 := h.lo
  have h2 := h.k.lo
  have h3 := h.k.sz
  h.k.low.grown hg (by omega) (fun k e => by injection e; omega)
end
theorem getV_len (zs : List Int) (i : Nat) (e : Int) : (getV zs i e).length = 8 := by
  unfold getV
  split
  · rfl
  · rfl
theorem deep_some {w : World} {M : Nat} {A : Option Addr} {zs : List Int} (h : Deep w M A zs) (hn : 0 < zs.length) : ∃ b off, A = some ⟨b, off, none⟩ := by
  obtain ⟨b, off, e, _⟩ := h hn
  exact ⟨b, off, e⟩
/-- What comes of the bytes: the answer, the place, the error. -/
theorem back_yes {a : List Int} (h : Ok8 a) (hr : rightA (ix a 0) a.tail = true) : getV (encN a) 0 0 = a ∧ (stN (encN a) 0 0 8).1 = (encN a).length ∧ getE (encN a) 0 0 = 0 := by
  obtain ⟨h1, h2⟩ := get_there h
  have e : getE (encN a) 0 0 = 0 := by unfold getE getOk; rw [h1, hr, h2]; rfl
  exact ⟨by unfold getV; rw [e, if_pos rfl, h1], by rw [h2], e⟩
theorem back_no {a : List Int} (h : Ok8 a) (hr : rightA (ix a 0) a.tail = false) : getV (encN a) 0 0 = zero8 ∧ getE (encN a) 0 0 = 4 := by
  obtain ⟨h1, h2⟩ := get_there h
  have e : getE (encN a) 0 0 = 4 := by unfold getE getOk; rw [h1, hr, h2]; rfl
  exact ⟨by unfold getV; rw [e, if_neg (by omega)], e⟩
set_option maxRecDepth 100000 in
set_option maxHeartbeats 8000000 in
theorem walk (a0 a1 a2 a3 a4 a5 a6 a7 n : Int) (W : World) (h : Ok8 [a0, a1, a2, a3, a4, a5, a6, a7]) (_ : -9223372036854775808 ≤ n ∧ n ≤ 9223372036854775807) :
    Calls Try.prog 7 #[.agg #[.int .i64 a0, .int .i64 a1, .int .i64 a2, .int .i64 a3, .int .i64 a4, .int .i64 a5, .int .i64 a6, .int .i64 a7], .int .i64 n] W fun e w' => e = .returned (.bool true) ∧ Below W.heap.size W w' := by
  have hlen := encN_len [a0, a1, a2, a3, a4, a5, a6, a7]
  have hoct := octets_encN [a0, a1, a2, a3, a4, a5, a6, a7]
  have hput := hide (put_any a0 a1 a2 a3 a4 a5 a6 a7 (W.alloc (.cells #[.int .i64 a0, .int .i64 a1, .int .i64 a2, .int .i64 a3, .int .i64 a4, .int .i64 a5, .int .i64 a6, .int .i64 a7] 25)) h)
  have hcut := hide (fun q hq => get_cut h (q := q) hq)
  have hYES := hide (back_yes h)
  have hNO := hide (back_no h)
  have HA := hide (show Row (W.alloc (.cells #[.int .i64 a0, .int .i64 a1, .int .i64 a2, .int .i64 a3, .int .i64 a4, .int .i64 a5, .int .i64 a6, .int .i64 a7] 25)) W.heap.size 25 (cA [a0, a1, a2, a3, a4, a5, a6, a7]) from Row.new _ _ _)
  have HW := hide (kept_alloc (kept_refl W) (.cells #[.int .i64 a0, .int .i64 a1, .int .i64 a2, .int .i64 a3, .int .i64 a4, .int .i64 a5, .int .i64 a6, .int .i64 a7] 25))
  have hR := hide (fun w => rightA_any a0 a1 a2 a3 a4 a5 a6 a7 w)
  replace hYES : Hid (rightA a0 [a1, a2, a3, a4, a5, a6, a7] = true → getV (encN [a0, a1, a2, a3, a4, a5, a6, a7]) 0 0 = [a0, a1, a2, a3, a4, a5, a6, a7] ∧ (stN (encN [a0, a1, a2, a3, a4, a5, a6, a7]) 0 0 8).1 = (encN [a0, a1, a2, a3, a4, a5, a6, a7]).length ∧ getE (encN [a0, a1, a2, a3, a4, a5, a6, a7]) 0 0 = 0) := hYES
  replace hNO : Hid (rightA a0 [a1, a2, a3, a4, a5, a6, a7] = false → getV (encN [a0, a1, a2, a3, a4, a5, a6, a7]) 0 0 = zero8 ∧ getE (encN [a0, a1, a2, a3, a4, a5, a6, a7]) 0 0 = 4) := hNO
  generalize encN [a0, a1, a2, a3, a4, a5, a6, a7] = zs at *
  have h8 : (8 : Int) ≤ zs.length := by have := hlen.1; simp at this; omega
  have h80 : zs.length ≤ 80 := hlen.2
  have hwb := withinI_bounds n 0 ((zs.length : Int) - 1) (by omega)
  obtain ⟨m, hm⟩ : ∃ m : Nat, withinI n 0 ((zs.length : Int) - 1) = m := ⟨(withinI n 0 ((zs.length : Int) - 1)).toNat, by omega⟩
  have hwi := hide (fun w => hm ▸ within_any n 0 ((zs.length : Int) - 1) w (by omega) (by omega) (by omega))
  have hm1 : m < zs.length := by omega
  obtain ⟨hcE, hcV⟩ := hcut.out m hm1
  have hOCT := hide hoct
  clear hwb hm hcut h hlen hoct
  go_enter Try.func7, Try.ntmps7
  go_upto_region 2 with (go_at_call 26; refine hput.out.mono ?_; rintro e w1 ⟨v, rfl, ho, hb⟩)
  obtain ⟨A, c, rfl, hAn⟩ := own_shape ho
  have hc := (own_len ho).2
  have KB := hide (show Bk W w1 w1.heap.size [a0, a1, a2, a3, a4, a5, a6, a7] A zs from ⟨kept_trans HW.out hb, HA.out.below hb HA.out.lt, (Lies.of_own ho).deep, by have := hb.size; simp at this; omega, Nat.le_refl _⟩)
  obtain ⟨b, off, rfl⟩ := deep_some KB.out.b (by omega)
  clear ho hb hput HA HW hAn
  have hlies := hide (KB.out.b.lies KB.out.sz)
  have hread := hide (pread_any (some ⟨b, off, none⟩) zs.length c zs w1 rfl hlies.out hOCT.out (fun e => by cases e) (by omega))
  clear hlies
  generalize w1.heap.size = M at KB
  go_upto_region 3 with (go_at_call 27; refine hread.out.mono ?_; rintro e w2 ⟨g, rfl, hg, hr, hb⟩)
  have hMg : M ≤ g := Nat.le_trans KB.out.sz hg
  have KR := hide hr
  replace KB := hide (KB.out.below hb)
  clear hread hg hr hb
  have hget := hide (get_any KR.out)
  clear KR
  obtain ⟨v0, v1, v2, v3, v4, v5, v6, v7, hV⟩ := len8 (getV_len zs 0 0)
  rw [hV] at hget hYES hNO
  clear hV
  replace hget : Hid (Calls Try.prog 28 #[.pointer (some ⟨g, 0, none⟩)] w2 fun x w' => x = .returned (.agg #[.int .i64 v0, .int .i64 v1, .int .i64 v2, .int .i64 v3, .int .i64 v4, .int .i64 v5, .int .i64 v6, .int .i64 v7]) ∧ Rdr 67 w' g g zs (stN zs 0 0 8).1 (getE zs 0 0) ∧ w2.grownBy w' (some g)) := hget
  generalize (stN zs 0 0 8).1 = I at hget hYES
  generalize getE zs 0 0 = E at hget hYES hNO
  have l8 : ¬ (zs.length : Int) < 8 := by omega
  have d8 : decide ((zs.length : Int) < 8) = false := decide_eq_false l8
  go_upto_region 6 with (go_at_call 28; refine hget.out.mono ?_; rintro e w3 ⟨rfl, hr, hg⟩)
  replace KB := hide (KB.out.grown hg (fun k e => by injection e; omega))
  have hgs := hr.lt
  have KG := hide (show Bg W (w3.alloc (.cells #[.int .i64 v0, .int .i64 v1, .int .i64 v2, .int .i64 v3, .int .i64 v4, .int .i64 v5, .int .i64 v6, .int .i64 v7] 25)) M [a0, a1, a2, a3, a4, a5, a6, a7] (some ⟨b, off, none⟩) zs g I E w3.heap.size [v0, v1, v2, v3, v4, v5, v6, v7] from ⟨KB.out.below (kept_alloc (kept_refl _) _), hr.alloc _, Row.new _ _ _, hMg, hgs⟩)
  clear KB hr hg hget l8 d8 hMg hgs
  generalize w3.heap.size = h7 at KG ⊢
  generalize World.alloc w3 _ = w4 at KG ⊢
  have hmc : (m : Int) ≤ (c : Int) := by omega
  have hm0 : (0 : Int) ≤ (m : Int) := by omega
  have hread := hide (pread_any (some ⟨b, off, none⟩) m c (zs.take m) w4 (by rw [List.length_take]; omega) ((KG.out.k.b.lies KG.out.k.sz).take m) (octets_take hOCT.out m) (fun e => by cases e) (by omega))
  have h7s := KG.out.v.lt
  go_upto_region 7 with (first
    | (go_at_call 24; refine (hwi.out _).mono ?_; rintro e w5 ⟨rfl, rfl⟩)
    | (go_at_call 27; refine hread.out.mono ?_; rintro e w5 ⟨g2, rfl, hg2, hr, hb⟩))
  replace KG := hide (KG.out.below hb)
  have hget := hide (get_any hr)
  rw [hcE, hcV] at hget
  have h72 : h7 < g2 := by omega
  clear hread hr hb hg2 h7s hcE hcV
  replace hget : Hid (Calls Try.prog 28 #[.pointer (some ⟨g2, 0, none⟩)] w5 fun x w' => x = .returned (.agg #[.int .i64 0, .int .i64 0, .int .i64 0, .int .i64 0, .int .i64 0, .int .i64 0, .int .i64 0, .int .i64 0]) ∧ Rdr 67 w' g2 g2 (zs.take m) (stN (zs.take m) 0 0 8).1 3 ∧ w5.grownBy w' (some g2)) := hget
  generalize (stN (zs.take m) 0 0 8).1 = J at hget
  go_upto_region 8 with (go_at_call 28; refine hget.out.mono ?_; rintro e w6 ⟨rfl, hr, hg⟩)
  have KT := hide (show Bt W (w6.alloc (.cells (cA zero8) 25)) M [a0, a1, a2, a3, a4, a5, a6, a7] (some ⟨b, off, none⟩) zs g I E h7 [v0, v1, v2, v3, v4, v5, v6, v7] g2 (zs.take m) J 3 w6.heap.size from ⟨(KG.out.grown hg h72).below (kept_alloc (kept_refl _) _), hr.alloc _, Row.new _ _ _⟩)
  replace KT : Hid (Bt W (w6.alloc (.cells #[.int .i64 0, .int .i64 0, .int .i64 0, .int .i64 0, .int .i64 0, .int .i64 0, .int .i64 0, .int .i64 0] 25)) M [a0, a1, a2, a3, a4, a5, a6, a7] (some ⟨b, off, none⟩) zs g I E h7 [v0, v1, v2, v3, v4, v5, v6, v7] g2 (zs.take m) J 3 w6.heap.size) := KT
  clear KG hr hg hget h72
  generalize w6.heap.size = h9 at KT ⊢
  generalize World.alloc w6 _ = w7 at KT ⊢
  have fa := eight_lit8 KT.out.g.k.a
  have fv := eight_lit8 KT.out.g.v
  have ft := eight_zero KT.out.t
  have hn0 : ∀ w, (binOp .neq 25 (.agg #[.int .i64 0, .int .i64 0, .int .i64 0, .int .i64 0, .int .i64 0, .int .i64 0, .int .i64 0, .int .i64 0]) (.agg #[.int .i64 0, .int .i64 0, .int .i64 0, .int .i64 0, .int .i64 0, .int .i64 0, .int .i64 0, .int .i64 0])).run Try.prog w = .ok (.bool false) w := fun w => by
    rw [neq_attr]; rfl
  generalize rightA a0 [a1, a2, a3, a4, a5, a6, a7] = ok at hR hYES hNO
  cases ok
  · obtain ⟨hv, rfl⟩ := hNO.out rfl
    injection hv with v0e hv
    injection hv with v1e hv
    injection hv with v2e hv
    injection hv with v3e hv
    injection hv with v4e hv
    injection hv with v5e hv
    injection hv with v6e hv
    injection hv with v7e hv
    subst v0e v1e v2e v3e v4e v5e v6e v7e
    clear hNO hYES hv
    have hq0 : ∀ w, (binOp .eql 25 (.agg #[.int .i64 0, .int .i64 0, .int .i64 0, .int .i64 0, .int .i64 0, .int .i64 0, .int .i64 0, .int .i64 0]) (.agg #[.int .i64 0, .int .i64 0, .int .i64 0, .int .i64 0, .int .i64 0, .int .i64 0, .int .i64 0, .int .i64 0])).run Try.prog w = .ok (.bool true) w := fun w => by
      rw [eql_attr]; rfl
    go_wp2_with (first
      | (go_at_call 18; refine (hR.out _).mono ?_; rintro x w8 ⟨rfl, hb⟩; clear fa fv ft; replace KT := hide (KT.out.below hb); clear hb; have fv := eight_lit8 KT.out.g.v)
      | (go_at_call 29; (with_reducible refine (pwrong_any KT.out.r).mono ?_); rintro x w9 ⟨rfl, rfl⟩)
      | (go_at_call 29; (with_reducible refine (pwrong_any KT.out.g.r).mono ?_); rintro x w9 ⟨rfl, rfl⟩)
      | (go_at_call 3; (with_reducible refine (runs_any _).mono ?_); rintro x w9 ⟨rfl, hb⟩; clear fv; replace KT := hide (KT.out.below hb); clear hb))
    go_ret
    exact ⟨rfl, KT.out.g.k.low⟩
  · obtain ⟨hv, hI, rfl⟩ := hYES.out rfl
    injection hv with v0e hv
    injection hv with v1e hv
    injection hv with v2e hv
    injection hv with v3e hv
    injection hv with v4e hv
    injection hv with v5e hv
    injection hv with v6e hv
    injection hv with v7e hv
    subst v0e v1e v2e v3e v4e v5e v6e v7e
    clear hNO hYES hv
    have hend : rEndE zs I 0 = 0 := by unfold rEndE; rw [if_pos rfl, if_neg (by omega)]
    have HEND := hide hend
    clear hend hI
    have hqa : ∀ w, (binOp .eql 25 (.agg #[.int .i64 v0, .int .i64 v1, .int .i64 v2, .int .i64 v3, .int .i64 v4, .int .i64 v5, .int .i64 v6, .int .i64 v7]) (.agg #[.int .i64 v0, .int .i64 v1, .int .i64 v2, .int .i64 v3, .int .i64 v4, .int .i64 v5, .int .i64 v6, .int .i64 v7])).run Try.prog w = .ok (.bool true) w := fun w => by
      rw [eql_attr]; simp
    go_wp2_with (first
      | (go_at_call 18; refine (hR.out _).mono ?_; rintro x w8 ⟨rfl, hb⟩; clear fa fv ft; replace KT := hide (KT.out.below hb); clear hb; have fv := eight_lit8 KT.out.g.v; have fa := eight_lit8 KT.out.g.k.a)
      | (go_at_call 29; (with_reducible refine (pwrong_any KT.out.r).mono ?_); rintro x w9 ⟨rfl, rfl⟩)
      | (go_at_call 30; refine (HEND.out ▸ pend_any KT.out.g.r).mono ?_; rintro x w9 ⟨rfl, _, hg⟩; have HL := hide (KT.out.g.done hg); clear fv fa hg)
      | (go_at_call 3; (with_reducible refine (runs_any _).mono ?_); rintro x w9 ⟨rfl, hb⟩; replace HL := hide (kept_trans HL.out hb); clear hb))
    go_ret
    exact ⟨rfl, HL.out⟩
set_option maxRecDepth 100000 in
theorem lifted (os : Os) (started : os.Started) (H : Type) (enc : TypeId × Value → H) :
    ReturnsInHanded {} Try.checked os 7 .any (Rows.depsBackSpec.pre6 enc Try.prog Try.f7 Rows.depsBackRow.domain false) (Rows.depsBackSpec.post enc Try.prog Try.f7 false true false false) := by
  refine returnsInHanded_of_change (C := Try.checked) own started (by kernel_rfl) Try.func7
    (ChangeSpec.witness6 (enc := enc) (C := Try.checked) false ⟨#[], #[.agg #[.int .i64 0, .int .i64 0, .int .i64 0, .int .i64 0, .int .i64 0, .int .i64 0, .int .i64 0, .int .i64 0], .int .i64 0], []⟩ 8 (by kernel_rfl) (by kernel_rfl) (by kernel_rfl) (by kernel_rfl)) ?_
  intro W base args ds gs before hval0 hW _ _
  have hval : ∀ (j : Nat) t v, Try.f7.params[j]? = some t → args[j]? = some v → Value.okWide Try.prog W .any base t v := hval0
  have hW' := hW
  obtain ⟨p, q, hA0, hV, rfl, _, _⟩ := hW
  have hA : DataW.TrodAll enc Try.prog W 0 (fun _ => true) true Try.f7.params.toList args.toList ds p := hA0
  rw [Try.params7] at hA hval
  obtain ⟨v0, vs0, d0, ds0, p0, q0, hargs, rfl, rfl, h0, r0⟩ := trodAll_cons hA
  obtain ⟨v1, vs1, d1, ds1, p1, q1, rfl, rfl, rfl, h1, r1⟩ := trodAll_cons r0
  obtain ⟨rfl, rfl, rfl⟩ := trodAll_nil r1
  obtain rfl : args = #[v0, v1] := by cases args; simp_all
  obtain ⟨rfl, rfl⟩ := trodVars_none hV
  have k0 := h0
  have lt0 : ∀ x ∈ p0, x.block < W.heap.size := by obtain ⟨m, hm⟩ := k0; exact DataW.trod_lt m _ _ _ hm
  obtain ⟨e0x0, e0x1, e0x2, e0x3, e0x4, e0x5, e0x6, e0x7, rfl, s0⟩ := attr_in (hval 0 25 v0 rfl rfl) h0
  obtain ⟨a1, rfl, rfl, rfl, w1⟩ := open_int Try.underlying3 (hval 1 3 v1 rfl rfl) h1
  clear hA0 hval0
  refine (walk e0x0 e0x1 e0x2 e0x3 e0x4 e0x5 e0x6 e0x7 a1 W s0 (bounds_i64 w1)).mono fun e W' ⟨he, bel⟩ => ?_
  subst he
  exact ⟨_, rfl, _, _, _, [], _, [], hW', trodAll_mk1 (shut_bool Try.underlying4 _), (trodAll_cons_mk (Below.trod laidOut (by kernel_rfl) (of_decide_eq_true (by kernel_rfl)) k0 bel lt0) (trodAll_cons_mk (shut_int Try.underlying3 w1) trodAll_mk0)), rfl, bel.frame _, fun h => by cases h⟩
theorem over : Rows.depsBackRow.holds Try.pinned (OpenSpec.ofChange Rows.depsBackSpec) :=
  OpenClaim.holds_of_wide 7 Try.f7 rfl rfl rfl rfl rfl rfl rfl ⟨rfl, rfl, rfl, rfl, rfl⟩ rfl rfl rfl rfl rfl (by kernel_rfl) Try.func7 (by kernel_rfl)
    (of_decide_eq_true (by kernel_rfl)) (by unfold Func.isWrapper; first | (rw [if_pos (by decide +kernel)]; kernel_rfl) | (rw [if_neg (by decide +kernel)]; exact ⟨rfl, rfl⟩))
    (fun os started H enc _ => lifted os started H enc)
theorem proved : Rows.DepsBackSaid := over
end Go.Proofs.Ytpngcocmjbkfgaa.depsBack
