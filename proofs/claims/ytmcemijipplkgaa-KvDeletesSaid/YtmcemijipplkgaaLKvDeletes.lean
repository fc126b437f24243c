/- Proved: the law KvDeletes returns true. Conditions: none beyond the row's own. -/
import Derived.Test.YtmcemijipplkgaaFrame
import Derived.Test.YtmcemijipplkgaaLw
namespace Go.Proofs.Ytmcemijipplkgaa.kvDeletes
open Go.ChangeShapes Go.WideShapes Go.ChangeAt Go.RowKit
set_option maxRecDepth 100000 in
set_option maxHeartbeats 8000000 in
theorem walk (A : Option Addr) (n c : Nat) (l : List Pr) (key value : ByteArray) (W : World) (h : PairsIn W A n c l) (_ : key.size ≤ 140737488351232) (_ : value.size ≤ 140737488351232) :
    Calls Try.prog 8 #[.slice A n c, .string key, .string value] W fun e w' => e = .returned (.bool true) ∧ Below W.heap.size W w' := by
  have HR := hide (rising_any A n c l W h.len h.le h.lies (by have := h.le; have := h.room; omega))
  have H := hide h
  clear h
  go_enter Try.func8, Try.ntmps8
  go_upto_region 2 with (go_at_call 16; (with_reducible refine HR.out.mono ?_); rintro e w1 ⟨m, q, rfl, hm, hu, rfl⟩; have HM := hide hm; have HU := hide hu; clear hm hu)
  have B1 := hide (kept_drewN (kept_refl W) q)
  have PL := hide (show Pin (W.drewN q) (.slice A m c) (l.take m) from ⟨A, c, by rw [List.length_take, Nat.min_eq_left HM.out], H.out.nil, by rw [List.length_take]; have := H.out.le; have := H.out.len; have := HM.out; omega, by have := H.out.room; omega, (H.out.lies.below B1.out).take m⟩)
  have HL := hide (show (l.take m).length = m by rw [List.length_take, Nat.min_eq_left HM.out])
  have HM2 := hide (show m ≤ 3518437208780 by have := H.out.le; have := H.out.len; have := HM.out; have := H.out.room; omega)
  generalize W.drewN q = w1 at B1 PL ⊢
  generalize l.take m = L at PL HU HL ⊢
  clear HR H HM
  have RUN := hide (fun w => runs_any w)
  have G1 := hide (fun w h => get_got (.slice A m c) L key w h (by rw [HL.out]; have := HM2.out; omega))
  have P1 := hide (fun w h => put_any (.slice A m c) L key value w h (by rw [HL.out]; exact HM2.out))
  obtain ⟨E, hE⟩ : ∃ E, putE L key = E := ⟨_, rfl⟩
  rw [hE] at P1
  have HE := hide hE
  clear hE
  go_upto_region 3 with (go_at_call 11; (with_reducible refine (G1.out _ PL.out).mono ?_); rintro e w2 ⟨rfl, hb2⟩; have PL2 := hide (PL.out.below hb2); have B2 := hide (kept_trans B1.out hb2); clear hb2)
  have kb := kept_alloc (kept_refl w2) (.cells #[.string (getP L key).k, .string (getP L key).v, .int .i64 (getP L key).n] 29)
  replace B2 := hide (kept_trans B2.out kb)
  replace PL2 := hide (PL2.out.below kb)
  clear PL G1 B1 kb
  generalize w2.alloc (.cells #[.string (getP L key).k, .string (getP L key).v, .int .i64 (getP L key).n] 29) = w3 at B2 PL2 ⊢
  generalize getP L key = g0
  go_upto_region 4 with (go_at_call 9; (with_reducible refine (P1.out _ PL2.out).mono ?_); rintro e w4 ⟨v4, rfl, ho4, hb4⟩; have O4 := hide ho4; have PL4 := hide (PL2.out.below hb4); have B4 := hide (kept_trans B2.out hb4); clear ho4 hb4)
  clear P1 PL2 B2
  cases ht : isB L key
  · cases hf : fullB L key
    · have hE : putE L key = 0 := by unfold putE; rw [hf]; simp
      obtain rfl : E = 0 := HE.out.symm.trans hE
      have hm32 : m < 32 := by
        unfold fullB at hf
        rw [ht, HL.out] at hf
        simpa using hf
      have h40 : decide ((40 : Int) < (m : Int)) = false := decide_eq_false (by omega)
      have eM := put_room (value := value) hf
      have eV : verP L key = 1 := by unfold verP; rw [ht]; simp
      have hs := put_self HU.out key value
      have hlen := put_len_le L key value
      rw [HL.out] at hlen
      have D := hide (fun w h => by have h := del_any v4 (putL L key value) key w h (by omega); rw [eM, del_put HU.out ht, hs.1] at h; exact h)
      have P2 := hide (fun v w h => by have h := put_any v L key value w h (by rw [HL.out]; omega); rw [hE] at h; exact h)
      have G2 := hide (fun v w h => by have h := get_put_self (value := value) HU.out hf (by rw [HL.out]; omega) v w h; rw [eV] at h; exact h)
      have OM := hide O4.out
      have hML := hide (show (putL L key value).length ≤ 4611686018427387904 by omega)
      generalize putL L key value = M at D P2 G2 OM hML
      clear eM eV hs hlen hE hf O4
      go_upto_region 7 with (go_at_call 10; (with_reducible refine (D.out _ OM.out.pin).mono ?_); rintro e w5 ⟨v5, rfl, ho5, hb5⟩; have O5 := hide ho5; have OM5 := hide (OM.out.below hb5); have PL5 := hide (PL4.out.below hb5); have B5 := hide (kept_trans B4.out hb5); clear ho5 hb5)
      clear OM PL4 B4 D
      go_upto_region 8 with (go_at_call 9; (with_reducible refine (P2.out _ _ O5.out.pin).mono ?_); rintro e w6 ⟨v6, rfl, ho6, hb6⟩; have O6 := hide ho6; have OM6 := hide (OM5.out.below hb6); have O56 := hide (O5.out.below hb6); have PL6 := hide (PL5.out.below hb6); have B6 := hide (kept_trans B5.out hb6); clear ho6 hb6)
      clear OM5 PL5 B5 P2 O5
      go_upto_region 9 with (go_at_call 11; (with_reducible refine (G2.out _ _ O6.out.pin).mono ?_); rintro e w7 ⟨rfl, hb7⟩; have O67 := hide (O6.out.below hb7); have OM7 := hide (OM6.out.below hb7); have O57 := hide (O56.out.below hb7); have PL7 := hide (PL6.out.below hb7); have B7 := hide (kept_trans B6.out hb7); clear hb7)
      have V1 := hide (Pbox.new w7 ⟨key, value, 1⟩)
      have kb := kept_alloc (kept_refl w7) (.cells #[.string key, .string value, .int .i64 1] 29)
      replace B7 := hide (kept_trans B7.out kb)
      replace O67 := hide (O67.out.below kb)
      replace OM7 := hide (OM7.out.below kb)
      replace O57 := hide (O57.out.below kb)
      replace PL7 := hide (PL7.out.below kb)
      clear O6 OM6 O56 PL6 B6 G2 kb
      generalize w7.alloc (.cells #[.string key, .string value, .int .i64 1] 29) = w8 at V1 B7 O67 OM7 O57 PL7 ⊢
      generalize w7.heap.size = g4 at V1 ⊢
      obtain ⟨q0, q1, q2⟩ := V1.out.three
      simp only at q0 q1 q2
      obtain ⟨A5, c5, rfl, hp5⟩ := O57.out.slice (n := m) HL.out
      obtain ⟨N, hN⟩ : ∃ N, M.length = N := ⟨_, rfl⟩
      have hN2 : N ≤ 4611686018427387904 := by rw [← hN]; exact hML.out
      obtain ⟨A6, c6, rfl, hp6⟩ := O67.out.slice (n := N) hN
      obtain ⟨A4, c4, rfl, hp4⟩ := OM7.out.slice (n := N) hN
      obtain ⟨A0, c0, e0, _, _, _, hp0⟩ := PL7.out
      rw [HL.out] at e0
      injection e0 with e0 _ e1
      subst e0 e1
      have S1 := hide (fun w (hb : Below w8.heap.size w8 w) => by have h := same_any A5 A m m c5 c L L w HL.out HL.out (hp5.below hb) (hp0.below hb) (by omega) (by omega); rw [decide_eq_true rfl] at h; exact h)
      have S2 := hide (fun w (hb : Below w8.heap.size w8 w) => by have h := same_any A6 A4 N N c6 c4 M M w hN hN (hp6.below hb) (hp4.below hb) (by omega) (by omega); rw [decide_eq_true rfl] at h; exact h)
      have BB := hide (kept_refl w8)
      clear V1 hp5 hp6 hp4 hp0 O57 O67 OM7 PL7
      go_wp2_with (first
        | (go_at_call 13; (with_reducible refine (S1.out _ BB.out).mono ?_); rintro e w9 ⟨rfl, q9, rfl⟩; have BC := hide (kept_drewN BB.out q9))
        | (go_at_call 13; (with_reducible refine (S2.out _ BC.out).mono ?_); rintro e w9 ⟨rfl, q10, rfl⟩)
        | (go_at_call 3; (with_reducible refine (RUN.out _).mono ?_); rintro e w12 ⟨rfl, hb12⟩))
      go_ret
      exact ⟨rfl, kept_trans (kept_drewN B7.out (q9 + q10)) hb12⟩
    · have hE : putE L key = 7 := by unfold putE; rw [hf]; simp
      obtain rfl : E = 7 := HE.out.symm.trans hE
      clear hE
      go_wp2_with (go_at_call 3; (with_reducible refine (RUN.out _).mono ?_); rintro e w12 ⟨rfl, hb12⟩)
      go_ret
      exact ⟨rfl, kept_trans B4.out hb12⟩
  · clear O4 PL4
    go_wp2_with (go_at_call 3; (with_reducible refine (RUN.out _).mono ?_); rintro e w12 ⟨rfl, hb12⟩)
    go_ret
    exact ⟨rfl, kept_trans B4.out hb12⟩
set_option maxRecDepth 100000 in
theorem lifted (os : Os) (started : os.Started) (H : Type) (enc : TypeId × Value → H) :
    ReturnsInHanded {} Try.checked os 8 .any (Rows.kvDeletesSpec.pre6 enc Try.prog Try.f8 Rows.kvDeletesRow.domain false) (Rows.kvDeletesSpec.post enc Try.prog Try.f8 false true false false) := by
  refine returnsInHanded_of_change_sized (C := Try.checked) own started (by kernel_rfl) Try.func8
    (ChangeSpec.witness6 (enc := enc) (C := Try.checked) false ⟨#[], #[.slice none 0 0, .string ⟨#[]⟩, .string ⟨#[]⟩], []⟩ 8 (by kernel_rfl) (by kernel_rfl) (by kernel_rfl) (by kernel_rfl)) ?_
  intro W base args ds gs before hval0 hW _ hsz0 _
  have hval : ∀ (j : Nat) t v, Try.f8.params[j]? = some t → args[j]? = some v → Value.okWide Try.prog W .any base t v := hval0
  have hW' := hW
  obtain ⟨p, q, hA0, hV, rfl, _, _⟩ := hW
  have hA : DataW.TrodAll enc Try.prog W 0 (fun _ => true) true Try.f8.params.toList args.toList ds p := hA0
  have hsz : (DataW.weightsEach Try.prog (Try.f8.params.toList ++ Rows.kvDeletesSpec.plain.varTypes Try.prog) (ds ++ gs)).all (· ≤ reachBytes) = true := hsz0
  rw [Try.params8] at hA hval hsz
  obtain ⟨v0, vs0, d0, ds0, p0, q0, hargs, rfl, rfl, h0, r0⟩ := trodAll_cons hA
  obtain ⟨v1, vs1, d1, ds1, p1, q1, rfl, rfl, rfl, h1, r1⟩ := trodAll_cons r0
  obtain ⟨v2, vs2, d2, ds2, p2, q2, rfl, rfl, rfl, h2, r2⟩ := trodAll_cons r1
  obtain ⟨rfl, rfl, rfl⟩ := trodAll_nil r2
  obtain rfl : args = #[v0, v1, v2] := by cases args; simp_all
  obtain ⟨rfl, rfl⟩ := trodVars_none hV
  have k0 := h0
  have lt0 : ∀ x ∈ p0, x.block < W.heap.size := by obtain ⟨m, hm⟩ := k0; exact DataW.trod_lt m _ _ _ hm
  obtain ⟨A0, n0, c0, rfl⟩ := okWide_slice Try.underlying22 (hval 0 22 v0 rfl rfl)
  obtain ⟨z0, s0⟩ := pairs_in (j := 0) h0 hsz rfl rfl
  have k1 := h1
  have lt1 : ∀ x ∈ p1, x.block < W.heap.size := by obtain ⟨m, hm⟩ := k1; exact DataW.trod_lt m _ _ _ hm
  obtain ⟨a1, rfl, s1⟩ := str_in (j := 1) (hval 1 9 v1 rfl rfl) h1 hsz rfl rfl
  have k2 := h2
  have lt2 : ∀ x ∈ p2, x.block < W.heap.size := by obtain ⟨m, hm⟩ := k2; exact DataW.trod_lt m _ _ _ hm
  obtain ⟨a2, rfl, s2⟩ := str_in (j := 2) (hval 2 9 v2 rfl rfl) h2 hsz rfl rfl
  clear hA0 hval0
  refine (walk A0 n0 c0 z0 a1 a2 W s0 s1 s2).mono fun e W' ⟨he, bel⟩ => ?_
  subst he
  exact ⟨_, rfl, _, _, _, [], _, [], hW', trodAll_mk1 (shut_bool Try.underlying4 _), (trodAll_cons_mk (Below.trod laidOut (by kernel_rfl) (of_decide_eq_true (by kernel_rfl)) k0 bel lt0) (trodAll_cons_mk (Below.trod laidOut (by kernel_rfl) (of_decide_eq_true (by kernel_rfl)) k1 bel lt1) (trodAll_cons_mk (Below.trod laidOut (by kernel_rfl) (of_decide_eq_true (by kernel_rfl)) k2 bel lt2) trodAll_mk0))), rfl, bel.frame _, fun h => by cases h⟩
theorem over : Rows.kvDeletesRow.holds Try.pinned (OpenSpec.ofChange Rows.kvDeletesSpec) :=
  OpenClaim.holds_of_wide 8 Try.f8 rfl rfl rfl rfl rfl rfl rfl ⟨rfl, rfl, rfl, rfl, rfl⟩ rfl rfl rfl rfl rfl (by kernel_rfl) Try.func8 (by kernel_rfl)
    (of_decide_eq_true (by kernel_rfl)) (by unfold Func.isWrapper; first | (rw [if_pos (by decide +kernel)]; kernel_rfl) | (rw [if_neg (by decide +kernel)]; exact ⟨rfl, rfl⟩))
    (fun os started H enc _ => lifted os started H enc)
theorem proved : Rows.KvDeletesSaid := over
end Go.Proofs.Ytmcemijipplkgaa.kvDeletes
