/- Proved: the law KvOthers returns true. Conditions: none beyond the row's own. -/
import Derived.Test.YtmcemijipplkgaaFrame
import Derived.Test.YtmcemijipplkgaaLw
namespace Go.Proofs.Ytmcemijipplkgaa.kvOthers
open Go.ChangeShapes Go.WideShapes Go.ChangeAt Go.RowKit
set_option maxRecDepth 100000 in
set_option maxHeartbeats 8000000 in
theorem walk (A : Option Addr) (n c : Nat) (l : List Pr) (key other value : ByteArray) (W : World) (h : PairsIn W A n c l) (_ : key.size ≤ 140737488351232) (_ : other.size ≤ 140737488351232) (_ : value.size ≤ 140737488351232) :
    Calls Try.prog 6 #[.slice A n c, .string key, .string other, .string value] W fun e w' => e = .returned (.bool true) ∧ Below W.heap.size W w' := by
  have HR := hide (rising_any A n c l W h.len h.le h.lies (by have := h.le; have := h.room; omega))
  have H := hide h
  clear h
  go_enter Try.func6, Try.ntmps6
  go_upto_region 2 with (go_at_call 16; (with_reducible refine HR.out.mono ?_); rintro e w1 ⟨m, q, rfl, hm, hu, rfl⟩; have HM := hide hm; have HU := hide hu; clear hm hu)
  have B1 := hide (kept_drewN (kept_refl W) q)
  have PL := hide (show Pin (W.drewN q) (.slice A m c) (l.take m) from ⟨A, c, by rw [List.length_take, Nat.min_eq_left HM.out], H.out.nil, by rw [List.length_take]; have := H.out.le; have := H.out.len; have := HM.out; omega, by have := H.out.room; omega, (H.out.lies.below B1.out).take m⟩)
  have HL := hide (show (l.take m).length = m by rw [List.length_take, Nat.min_eq_left HM.out])
  generalize W.drewN q = w1 at B1 PL ⊢
  generalize l.take m = L at PL HU HL ⊢
  clear HR H HM
  have RUN := hide (fun w => runs_any w)
  by_cases hlen : 50 < m
  · have h1 : decide ((50 : Int) < (m : Int)) = true := decide_eq_true (by omega)
    go_wp2_with (go_at_call 3; (with_reducible refine (RUN.out _).mono ?_); rintro e w2 ⟨rfl, hb2⟩)
    go_ret
    exact ⟨rfl, kept_trans B1.out hb2⟩
  · have h1 : decide ((50 : Int) < (m : Int)) = false := decide_eq_false (by omega)
    cases hk : eqB key other
    · have h2 := hk
      unfold eqB at h2
      have hne : key ≠ other := fun e => by rw [(eq_iff _ _).2 e] at hk; cases hk
      have G1 := hide (fun w h => get_got (.slice A m c) L other w h (by rw [HL.out]; omega))
      have P1 := hide (fun w h => put_any (.slice A m c) L key value w h (by rw [HL.out]; omega))
      have D1 := hide (fun w h => del_any (.slice A m c) L key w h (by rw [HL.out]; omega))
      have G2 := hide (fun v w h => get_del_other (key := key) HU.out hne (by rw [HL.out]; omega) v w h)
      have G3 := hide (fun hf v w h => get_put_other (value := value) HU.out hne hf (by rw [HL.out]; omega) v w h)
      have G4 := hide (fun hf v w h => get_put_self (key := key) (value := value) HU.out hf (by rw [HL.out]; omega) v w h)
      have hE : putE L key = if fullB L key = true then 7 else 0 := rfl
      have heq := fun w => pair_self (getP L other) w
      have hvv : (value.toList == value.toList) = true := by simp
      generalize getP L other = g at G1 G2 G3 heq
      generalize isB L other = t at G1 G2 G3
      generalize putL L key value = M at P1 G3 G4
      generalize delP L key = N at D1 G2
      generalize isB L key = t2 at D1
      generalize verP L key = V at G4
      generalize putE L key = E at P1 hE
      generalize fullB L key = f at hE G3 G4
      clear hne hk
      have HE := hide hE
      clear hE
      go_upto_region 5 with (go_at_call 11; (with_reducible refine (G1.out _ PL.out).mono ?_); rintro e w2 ⟨rfl, hb2⟩; have PL2 := hide (PL.out.below hb2); have B2 := hide (kept_trans B1.out hb2); clear hb2)
      have X1 := hide (Pbox.new w2 g)
      replace B2 := hide (kept_alloc B2.out (.cells #[.string g.k, .string g.v, .int .i64 g.n] 29))
      replace PL2 := hide (PL2.out.below (kept_alloc (kept_refl w2) (.cells #[.string g.k, .string g.v, .int .i64 g.n] 29)))
      clear PL G1 B1
      generalize w2.alloc (.cells #[.string g.k, .string g.v, .int .i64 g.n] 29) = w3 at X1 B2 PL2 ⊢
      generalize w2.heap.size = g1 at X1 ⊢
      go_upto_region 6 with (go_at_call 9; (with_reducible refine (P1.out _ PL2.out).mono ?_); rintro e w4 ⟨v4, rfl, ho4, hb4⟩; have O4 := hide ho4; have PL4 := hide (PL2.out.below hb4); have B4 := hide (kept_trans B2.out hb4); have X4 := hide (X1.out.below hb4); clear ho4 hb4)
      clear PL2 X1 P1 B2
      go_upto_region 7 with (go_at_call 10; (with_reducible refine (D1.out _ PL4.out).mono ?_); rintro e w5 ⟨v5, rfl, ho5, hb5⟩; have O5 := hide ho5; have O45 := hide (O4.out.below hb5); have B5 := hide (kept_trans B4.out hb5); have X5 := hide (X4.out.below hb5); clear ho5 hb5)
      clear PL4 X4 D1 B4 O4
      go_upto_region 8 with (go_at_call 11; (with_reducible refine (G2.out _ _ O5.out.pin).mono ?_); rintro e w6 ⟨rfl, hb6⟩; have O46 := hide (O45.out.below hb6); have B6 := hide (kept_trans B5.out hb6); have X6 := hide (X5.out.below hb6); clear hb6)
      have Y1 := hide (Pbox.new w6 g)
      have kb := kept_alloc (kept_refl w6) (.cells #[.string g.k, .string g.v, .int .i64 g.n] 29)
      replace B6 := hide (kept_trans B6.out kb)
      replace O46 := hide (O46.out.below kb)
      replace X6 := hide (X6.out.below kb)
      clear X5 B5 O45 O5 G2 kb
      generalize w6.alloc (.cells #[.string g.k, .string g.v, .int .i64 g.n] 29) = w7 at X6 Y1 B6 O46 ⊢
      generalize w6.heap.size = g2 at Y1 ⊢
      cases f
      · obtain rfl : E = 0 := by have := HE.out; simpa using this
        replace G3 := hide (G3.out rfl)
        replace G4 := hide (G4.out rfl)
        go_upto_region 11 with (go_at_call 11; (with_reducible refine (G3.out _ _ O46.out.pin).mono ?_); rintro e w8 ⟨rfl, hb8⟩; have O48 := hide (O46.out.below hb8); have B8 := hide (kept_trans B6.out hb8); have X8 := hide (X6.out.below hb8); have Y8 := hide (Y1.out.below hb8); clear hb8)
        have Z1 := hide (Pbox.new w8 g)
        have kb := kept_alloc (kept_refl w8) (.cells #[.string g.k, .string g.v, .int .i64 g.n] 29)
        replace B8 := hide (kept_trans B8.out kb)
        replace O48 := hide (O48.out.below kb)
        replace X8 := hide (X8.out.below kb)
        replace Y8 := hide (Y8.out.below kb)
        clear X6 Y1 B6 O46 G3 kb
        generalize w8.alloc (.cells #[.string g.k, .string g.v, .int .i64 g.n] 29) = w9 at X8 Y8 Z1 B8 O48 ⊢
        generalize w8.heap.size = g3 at Z1 ⊢
        go_upto_region 12 with (go_at_call 11; (with_reducible refine (G4.out _ _ O48.out.pin).mono ?_); rintro e w10 ⟨rfl, hb10⟩; have B10 := hide (kept_trans B8.out hb10); have X10 := hide (X8.out.below hb10); have Y10 := hide (Y8.out.below hb10); have Z10 := hide (Z1.out.below hb10); clear hb10)
        have V1 := hide (Pbox.new w10 ⟨key, value, V⟩)
        have kb := kept_alloc (kept_refl w10) (.cells #[.string key, .string value, .int .i64 V] 29)
        replace B10 := hide (kept_trans B10.out kb)
        obtain ⟨x0, x1, x2⟩ := (X10.out.below kb).three
        obtain ⟨y0, y1, y2⟩ := (Y10.out.below kb).three
        obtain ⟨z0, z1, z2⟩ := (Z10.out.below kb).three
        obtain ⟨q0, q1, q2⟩ := V1.out.three
        simp only at q0 q1 q2
        clear X8 Y8 Z1 B8 O48 G4 kb X10 Y10 Z10 V1
        generalize w10.alloc (.cells #[.string key, .string value, .int .i64 V] 29) = w11 at *
        generalize w10.heap.size = g4 at *
        go_wp2_with (go_at_call 3; (with_reducible refine (RUN.out _).mono ?_); rintro e w12 ⟨rfl, hb12⟩)
        go_ret
        exact ⟨rfl, kept_trans B10.out hb12⟩
      · obtain rfl : E = 7 := by have := HE.out; simpa using this
        obtain ⟨x0, x1, x2⟩ := X6.out.three
        obtain ⟨y0, y1, y2⟩ := Y1.out.three
        clear X6 Y1 G3 G4 O46
        go_wp2_with (go_at_call 3; (with_reducible refine (RUN.out _).mono ?_); rintro e w12 ⟨rfl, hb12⟩)
        go_ret
        exact ⟨rfl, kept_trans B6.out hb12⟩
    · have h2 := hk
      unfold eqB at h2
      go_wp2_with (go_at_call 3; (with_reducible refine (RUN.out _).mono ?_); rintro e w2 ⟨rfl, hb2⟩)
      go_ret
      exact ⟨rfl, kept_trans B1.out hb2⟩
set_option maxRecDepth 100000 in
theorem lifted (os : Os) (started : os.Started) (H : Type) (enc : TypeId × Value → H) :
    ReturnsInHanded {} Try.checked os 6 .any (Rows.kvOthersSpec.pre6 enc Try.prog Try.f6 Rows.kvOthersRow.domain false) (Rows.kvOthersSpec.post enc Try.prog Try.f6 false true false false) := by
  refine returnsInHanded_of_change_sized (C := Try.checked) own started (by kernel_rfl) Try.func6
    (ChangeSpec.witness6 (enc := enc) (C := Try.checked) false ⟨#[], #[.slice none 0 0, .string ⟨#[]⟩, .string ⟨#[]⟩, .string ⟨#[]⟩], []⟩ 8 (by kernel_rfl) (by kernel_rfl) (by kernel_rfl) (by kernel_rfl)) ?_
  intro W base args ds gs before hval0 hW _ hsz0 _
  have hval : ∀ (j : Nat) t v, Try.f6.params[j]? = some t → args[j]? = some v → Value.okWide Try.prog W .any base t v := hval0
  have hW' := hW
  obtain ⟨p, q, hA0, hV, rfl, _, _⟩ := hW
  have hA : DataW.TrodAll enc Try.prog W 0 (fun _ => true) true Try.f6.params.toList args.toList ds p := hA0
  have hsz : (DataW.weightsEach Try.prog (Try.f6.params.toList ++ Rows.kvOthersSpec.plain.varTypes Try.prog) (ds ++ gs)).all (· ≤ reachBytes) = true := hsz0
  rw [Try.params6] at hA hval hsz
  obtain ⟨v0, vs0, d0, ds0, p0, q0, hargs, rfl, rfl, h0, r0⟩ := trodAll_cons hA
  obtain ⟨v1, vs1, d1, ds1, p1, q1, rfl, rfl, rfl, h1, r1⟩ := trodAll_cons r0
  obtain ⟨v2, vs2, d2, ds2, p2, q2, rfl, rfl, rfl, h2, r2⟩ := trodAll_cons r1
  obtain ⟨v3, vs3, d3, ds3, p3, q3, rfl, rfl, rfl, h3, r3⟩ := trodAll_cons r2
  obtain ⟨rfl, rfl, rfl⟩ := trodAll_nil r3
  obtain rfl : args = #[v0, v1, v2, v3] := by cases args; simp_all
  obtain ⟨rfl, rfl⟩ := trodVars_none hV
  have k0 := h0
  have lt0 : ∀ x ∈ p0, x.block < W.heap.size := by obtain ⟨m, hm⟩ := k0; exact DataW.trod_lt m _ _ _ hm
  obtain ⟨A0, n0, c0, rfl⟩ := okWide_slice Try.underlying22 (hval 0 22 v0 rfl rfl)
  obtain ⟨z0, s0⟩ := pairs_in (j := 0) h0 hsz rfl rfl
  have k1 := h1
  have lt1 : ∀ x ∈ p1, x.block < W.heap.size := by obtain ⟨m, hm⟩ := k1; exact DataW.trod_lt m _ _ _ hm
  obtain ⟨a1, rfl, s1⟩ := str_in (j := 1) (hval 1 9 v1 rfl rfl) h1 hsz rfl rfl
  have k2 := h2
  have lt2 : ∀ x ∈ p2, x.block < W.heap.size := by obtain ⟨m, hm⟩ := k2; exact DataW.trod_lt m _ _ _ hm
  obtain ⟨a2, rfl, s2⟩ := str_in (j := 2) (hval 2 9 v2 rfl rfl) h2 hsz rfl rfl
  have k3 := h3
  have lt3 : ∀ x ∈ p3, x.block < W.heap.size := by obtain ⟨m, hm⟩ := k3; exact DataW.trod_lt m _ _ _ hm
  obtain ⟨a3, rfl, s3⟩ := str_in (j := 3) (hval 3 9 v3 rfl rfl) h3 hsz rfl rfl
  clear hA0 hval0
  refine (walk A0 n0 c0 z0 a1 a2 a3 W s0 s1 s2 s3).mono fun e W' ⟨he, bel⟩ => ?_
  subst he
  exact ⟨_, rfl, _, _, _, [], _, [], hW', trodAll_mk1 (shut_bool Try.underlying4 _), (trodAll_cons_mk (Below.trod laidOut (by kernel_rfl) (of_decide_eq_true (by kernel_rfl)) k0 bel lt0) (trodAll_cons_mk (Below.trod laidOut (by kernel_rfl) (of_decide_eq_true (by kernel_rfl)) k1 bel lt1) (trodAll_cons_mk (Below.trod laidOut (by kernel_rfl) (of_decide_eq_true (by kernel_rfl)) k2 bel lt2) (trodAll_cons_mk (Below.trod laidOut (by kernel_rfl) (of_decide_eq_true (by kernel_rfl)) k3 bel lt3) trodAll_mk0)))), rfl, bel.frame _, fun h => by cases h⟩
theorem over : Rows.kvOthersRow.holds Try.pinned (OpenSpec.ofChange Rows.kvOthersSpec) :=
  OpenClaim.holds_of_wide 6 Try.f6 rfl rfl rfl rfl rfl rfl rfl ⟨rfl, rfl, rfl, rfl, rfl⟩ rfl rfl rfl rfl rfl (by kernel_rfl) Try.func6 (by kernel_rfl)
    (of_decide_eq_true (by kernel_rfl)) (by unfold Func.isWrapper; first | (rw [if_pos (by decide +kernel)]; kernel_rfl) | (rw [if_neg (by decide +kernel)]; exact ⟨rfl, rfl⟩))
    (fun os started H enc _ => lifted os started H enc)
theorem proved : Rows.KvOthersSaid := over
end Go.Proofs.Ytmcemijipplkgaa.kvOthers
