/- Proved: the law KvTells returns true. Conditions: none beyond the row's own. -/
import Derived.Test.YtmcemijipplkgaaFrame
import Derived.Test.YtmcemijipplkgaaLw
import Derived.Test.YtmcemijipplkgaaRr
import Derived.Test.YtmcemijipplkgaaRn
import Derived.Test.YtmcemijipplkgaaRq
import Derived.Deep.DeepCutAuto
namespace Go.Proofs.Ytmcemijipplkgaa.kvTells
open Go.ChangeShapes Go.WideShapes Go.ChangeAt Go.RowKit
set_option maxRecDepth 100000 in
set_option maxHeartbeats 16000000 in
theorem walk (A : Option Addr) (n c : Nat) (l : List Pr) (key value lo hi : ByteArray) (W : World) (h : PairsIn W A n c l) (_ : key.size ≤ 140737488351232) (_ : value.size ≤ 140737488351232) :
    Calls Try.prog 4 #[.slice A n c, .string key, .string value, .agg #[.string lo, .string hi]] W fun e w' => e = .returned (.bool true) ∧ Below W.heap.size W w' := by
  have hN : ({ data := #[] } : ByteArray) = nilT := rfl
  have RUN := hide (fun w => runs_any w)
  have hc := h.room
  have hnc := h.le
  have TW := hide (Two.new W lo hi 35)
  have K0 := hide (kept_alloc (kept_refl W) (.cells #[.string lo, .string hi] 35))
  have H := hide (show l.length = n ∧ (A = none → c = 0) ∧ Prs (W.alloc (.cells #[.string lo, .string hi] 35)) A l from ⟨h.len, h.nil, h.lies.below K0.out⟩)
  clear h
  go_enter Try.func4, Try.ntmps4
  go_upto_if 31 with (fail)
  generalize W.alloc (.cells #[.string lo, .string hi] 35) = w1 at TW K0 H ⊢
  generalize W.heap.size = g0 at TW ⊢
  go_cut [0] (fun s0 wx => ∃ m : Nat, s0 = .slice A m c ∧ m ≤ 50 ∧ m ≤ n ∧ w1 = wx)
  case first =>
    by_cases h50 : 50 < n
    · have hb : decide ((50 : Int) < (n : Int)) = true := decide_eq_true (by omega)
      have h50c : (50 : Int) ≤ (c : Int) := by omega
      go_wp2
      go_meet
      exact ⟨50, rfl, by omega, by omega, rfl⟩
    · have hb : decide ((50 : Int) < (n : Int)) = false := decide_eq_false (by omega)
      go_wp2
      go_meet
      exact ⟨n, rfl, by omega, by omega, rfl⟩
  case rest =>
    obtain ⟨m, rfl, hm50, hmn, rfl⟩ := hcut
    have HL0 := hide (show (l.take m).length = m by rw [List.length_take, Nat.min_eq_left (by rw [H.out.1]; exact hmn)])
    have P0 := hide (show Pin _ (.slice A m c) (l.take m) from ⟨A, c, by rw [HL0.out], H.out.2.1, by rw [HL0.out]; omega, by omega, H.out.2.2.take m⟩)
    generalize l.take m = L0 at HL0 P0
    have C1 := hide (rright_any _ L0 _ P0.out (by rw [HL0.out]; omega))
    have C2 := hide (fun w h => right_any (.slice A m c) L0 w h (by rw [HL0.out]; omega))
    generalize rightB L0 = t0 at C1 C2
    have htt : (t0 != t0) = false := by cases t0 <;> rfl
    have htt2 : (t0 == t0) = true := by cases t0 <;> rfl
    clear H
    go_upto_region 4 with (go_at_call 14; (with_reducible refine C1.out.mono ?_); rintro e w2' ⟨rfl, q2, rfl⟩)
    have K1 := hide (kept_drewN (kept_refl w1) q2)
    generalize w1.drewN q2 = w2 at K1 ⊢
    clear C1
    go_upto_region 6 with (go_at_call 15; (with_reducible refine (C2.out _ (P0.out.below K1.out)).mono ?_); rintro e w3 ⟨rfl, hb⟩; have K2 := hide hb; clear hb)
    clear C2 htt htt2
    have P3 := hide (P0.out.below (kept_trans (K1.out) K2.out))
    have C3 := hide (show Calls Try.prog 16 #[.slice A m c] w3 fun e w' => ∃ m2 q : Nat, e = .returned (.slice A m2 c) ∧ m2 ≤ L0.length ∧ Up (L0.take m2) ∧ w' = w3.drewN q by
      obtain ⟨A', c', e', h1, h2, h3, h4⟩ := P3.out
      rw [HL0.out] at e'
      injection e' with e1 _ e3
      subst e1 e3
      exact rising_any A m c L0 w3 HL0.out (by rw [HL0.out] at h2; exact h2) h4 (by omega))
    go_upto_region 7 with (go_at_call 16; (with_reducible refine C3.out.mono ?_); rintro e w4' ⟨m2, q4, rfl, hm2, _, rfl⟩)
    have K3 := hide (kept_drewN (kept_refl w3) q4)
    rw [HL0.out] at hm2
    generalize w3.drewN q4 = w4 at K3 ⊢
    have HL := hide (show (L0.take m2).length = m2 by rw [List.length_take, Nat.min_eq_left (by rw [HL0.out]; exact hm2)])
    have P4 := hide (show ∃ l', Pin w4 (.slice A m2 c) l' ∧ l' = L0.take m2 by
      obtain ⟨A', c', e', h1, h2, h3, h4⟩ := P3.out
      rw [HL0.out] at e'
      injection e' with e1 _ e3
      subst e1 e3
      exact ⟨_, ⟨A, c, by rw [HL.out], h1, by rw [HL.out]; rw [HL0.out] at h2; omega, h3, (h4.below K3.out).take m2⟩, rfl⟩)
    obtain ⟨L, PL, hLL⟩ := P4.out
    have PL := hide PL
    rw [← hLL] at HL
    clear hLL P4 P3 C3 HL0 P0
    go_upto_region 8 with (fail)
    have MK := hide (show Pbox _ _ _ from Pbox.new w4 ⟨nilT, nilT, -7⟩)
    have K4 := hide (kept_alloc (kept_refl w4) (.cells #[.string nilT, .string nilT, .int .i64 (-7)] 29))
    simp only at MK
    generalize w4.alloc (.cells #[.string nilT, .string nilT, .int .i64 (-7)] 29) = w5 at MK K4 ⊢
    generalize w4.heap.size = gm at MK ⊢
    obtain ⟨mk, hmk⟩ : ∃ mk : Pr, mk = ⟨nilT, nilT, -7⟩ := ⟨_, rfl⟩
    have C5 := hide (show Calls Try.prog 17 #[.slice A m2 c, .agg #[.string nilT, .string nilT, .int .i64 (-7)]] w5 fun e w' => ∃ g : Nat, e = .returned (.slice (some ⟨g, 0, none⟩) ((m2 + 80 : Nat)) ((m2 + 80 : Nat))) ∧ Prs w' (some ⟨g, 0, none⟩) (roomL L mk) ∧ Below w5.heap.size w5 w' by
      obtain ⟨A', c', e', h1, h2, h3, h4⟩ := PL.out
      rw [HL.out] at e'
      injection e' with e1 _ e3
      subst e1 e3
      have h := roomy_any A m2 c L mk w5 HL.out (h4.below K4.out) (by omega)
      rw [HL.out, hmk] at h
      rw [hmk]
      exact h.mono fun _ _ h => ⟨_, h⟩)
    have hm80 : (m2 : Int) ≤ (m2 : Int) + 80 := by omega
    obtain ⟨x0, x1, x2⟩ := MK.out.three
    go_upto_region 10 with (go_at_call 17; (with_reducible refine C5.out.mono ?_); rintro e w6 ⟨gr, rfl, hp, hb⟩; have PF := hide hp; have K5 := hide hb; clear hp hb)
    clear C5 x0 x1 x2
    have PO := hide (show Pin w6 (.slice (some ⟨gr, 0, none⟩) m2 (m2 + 80)) L from ⟨_, m2 + 80, by rw [HL.out], (fun h => by cases h), by rw [HL.out]; omega, by omega, by have := PF.out.take L.length; rw [room_take] at this; exact this⟩)
    have hnl := hide (show m2 ≤ 50 by omega)

    have heq := fun w => pair_self (getP L key) w
    have CG := hide (fun w h => get_got (.slice (some ⟨gr, 0, none⟩) m2 (m2 + 80)) L key w h (by rw [HL.out]; omega))
    have CG' := hide (fun w h => show Calls Try.prog 18 #[.slice A m2 c, .string key] w (Got w (getP L key) (isB L key)) from rget_any (.slice A m2 c) L key w h (by rw [HL.out]; omega))
    have CP := hide (fun w h => put_any (.slice (some ⟨gr, 0, none⟩) m2 (m2 + 80)) L key value w h (by rw [HL.out]; omega))
    have CP' := hide (fun w h => rput_any (.slice A m2 c) L key value w h (by rw [HL.out]; omega))
    have CD := hide (fun w h => del_any (.slice (some ⟨gr, 0, none⟩) m2 (m2 + 80)) L key w h (by rw [HL.out]; omega))
    have CD' := hide (fun w h => rdel_any (.slice A m2 c) L key w h (by rw [HL.out]; omega))
    have CR := hide (fun w h => range_any (.slice (some ⟨gr, 0, none⟩) m2 (m2 + 80)) L lo hi w h (by rw [HL.out]; omega))
    have CR' := hide (fun w h => rrange_any (.slice A m2 c) L lo hi w h (by rw [HL.out]; omega))
    have LP := hide (show (putL L key value).length ≤ 1000 by have := put_len_le L key value; rw [HL.out] at this; omega)
    have LD := hide (show (delP L key).length ≤ 1000 by have := del_len_le L key; rw [HL.out] at this; omega)
    have LR := hide (show (rngP L lo hi).length ≤ 1000 by unfold rngP; rw [List.length_take]; omega)
    generalize getP L key = g at heq CG CG'
    generalize isB L key = t at CG CG' CD CD'
    generalize putL L key value = M at CP CP' LP
    generalize putE L key = E at CP CP'
    generalize delP L key = D at CD CD' LD
    generalize rngP L lo hi = R at CR CR' LR
    generalize moreB L lo hi = u at CR CR'
    clear hm80
    go_upto_region 11 with (go_at_call 11; (with_reducible refine (CG.out _ (PO.out)).mono ?_); rintro e wa6 ⟨rfl, hb⟩; have KA := hide hb; clear hb)
    have XA := hide (Pbox.new wa6 g)
    have K6 := hide (kept_trans KA.out (kept_alloc (kept_refl wa6) (.cells #[.string g.k, .string g.v, .int .i64 g.n] 29)))
    clear KA CG
    generalize wa6.alloc (.cells #[.string g.k, .string g.v, .int .i64 g.n] 29) = w7 at XA K6 ⊢
    generalize wa6.heap.size = gXA at XA ⊢
    go_upto_region 12 with (go_at_call 18; (with_reducible refine (CG'.out _ (PL.out.below (kept_trans (kept_trans (K4.out) K5.out) K6.out))).mono ?_); rintro e wa7 ⟨rfl, hb⟩; have KA := hide hb; clear hb)
    have XB := hide (Pbox.new wa7 g)
    have K7 := hide (kept_trans KA.out (kept_alloc (kept_refl wa7) (.cells #[.string g.k, .string g.v, .int .i64 g.n] 29)))
    clear KA CG'
    generalize wa7.alloc (.cells #[.string g.k, .string g.v, .int .i64 g.n] 29) = w8 at XB K7 ⊢
    generalize wa7.heap.size = gXB at XB ⊢
    go_upto_region 13 with (go_at_call 9; (with_reducible refine (CP.out _ (PO.out.below (kept_trans (K6.out) K7.out))).mono ?_); rintro e w9 ⟨vOA, rfl, ho, hb⟩; have OA := hide ho; have K8 := hide hb; clear ho hb)
    clear CP
    go_upto_region 14 with (go_at_call 19; (with_reducible refine (CP'.out _ (PL.out.below (kept_trans (kept_trans (kept_trans (kept_trans (K4.out) K5.out) K6.out) K7.out) K8.out))).mono ?_); rintro e w10 ⟨vOB, rfl, ho, hb⟩; have OB := hide ho; have K9 := hide hb; clear ho hb)
    clear CP'
    go_upto_region 15 with (go_at_call 10; (with_reducible refine (CD.out _ (PO.out.below (kept_trans (kept_trans (kept_trans (K6.out) K7.out) K8.out) K9.out))).mono ?_); rintro e w11 ⟨vOC, rfl, ho, hb⟩; have OC := hide ho; have K10 := hide hb; clear ho hb)
    clear CD
    go_upto_region 16 with (go_at_call 20; (with_reducible refine (CD'.out _ (PL.out.below (kept_trans (kept_trans (kept_trans (kept_trans (kept_trans (kept_trans (K4.out) K5.out) K6.out) K7.out) K8.out) K9.out) K10.out))).mono ?_); rintro e w12 ⟨vOD, rfl, ho, hb⟩; have OD := hide ho; have K11 := hide hb; clear ho hb)
    clear CD'
    have TW12 := TW.out.kept (kept_trans (kept_trans (kept_trans (kept_trans (kept_trans (kept_trans (kept_trans (kept_trans (kept_trans (kept_trans (K1.out) K2.out) K3.out) K4.out) K5.out) K6.out) K7.out) K8.out) K9.out) K10.out) K11.out); obtain ⟨s120, s121⟩ : _ ∧ _ := ⟨TW12.c0, TW12.c1⟩; clear TW12
    go_upto_region 17 with (go_at_call 12; (with_reducible refine (CR.out _ (PO.out.below (kept_trans (kept_trans (kept_trans (kept_trans (kept_trans (K6.out) K7.out) K8.out) K9.out) K10.out) K11.out))).mono ?_); rintro e w13 ⟨vOE, rfl, ho, hb⟩; have OE := hide ho; have K12 := hide hb; clear ho hb)
    clear CR
    clear s120 s121; have TW13 := TW.out.kept (kept_trans (kept_trans (kept_trans (kept_trans (kept_trans (kept_trans (kept_trans (kept_trans (kept_trans (kept_trans (kept_trans (K1.out) K2.out) K3.out) K4.out) K5.out) K6.out) K7.out) K8.out) K9.out) K10.out) K11.out) K12.out); obtain ⟨s130, s131⟩ : _ ∧ _ := ⟨TW13.c0, TW13.c1⟩; clear TW13
    go_upto_region 18 with (go_at_call 21; (with_reducible refine (CR'.out _ (PL.out.below (kept_trans (kept_trans (kept_trans (kept_trans (kept_trans (kept_trans (kept_trans (kept_trans (K4.out) K5.out) K6.out) K7.out) K8.out) K9.out) K10.out) K11.out) K12.out))).mono ?_); rintro e w14 ⟨vOF, rfl, ho, hb⟩; have OF := hide ho; have K13 := hide hb; clear ho hb)
    clear CR'
    clear s130 s131
    obtain ⟨x0, x1, x2⟩ := (XA.out.below (kept_trans (kept_trans (kept_trans (kept_trans (kept_trans (kept_trans (K7.out) K8.out) K9.out) K10.out) K11.out) K12.out) K13.out)).three
    obtain ⟨y0, y1, y2⟩ := (XB.out.below (kept_trans (kept_trans (kept_trans (kept_trans (kept_trans (K8.out) K9.out) K10.out) K11.out) K12.out) K13.out)).three
    obtain ⟨z0, z1, z2⟩ := (MK.out.below (kept_trans (kept_trans (kept_trans (kept_trans (kept_trans (kept_trans (kept_trans (kept_trans (K5.out) K6.out) K7.out) K8.out) K9.out) K10.out) K11.out) K12.out) K13.out)).three
    have NOA := hide (OA.out.pin.below (kept_trans (kept_trans (kept_trans (kept_trans (K9.out) K10.out) K11.out) K12.out) K13.out))
    have NOB := hide (OB.out.pin.below (kept_trans (kept_trans (kept_trans (K10.out) K11.out) K12.out) K13.out))
    have NOC := hide (OC.out.pin.below (kept_trans (kept_trans (K11.out) K12.out) K13.out))
    have NOD := hide (OD.out.pin.below (kept_trans (K12.out) K13.out))
    have NOE := hide (OE.out.pin.below (K13.out))
    have NOF := hide OF.out.pin
    obtain ⟨AOA, cOA, rfl, -, -, -, hOA⟩ := NOA.out
    obtain ⟨AOB, cOB, rfl, -, -, -, hOB⟩ := NOB.out
    have S0 := hide (fun w (hb : Below w14.heap.size w14 w) => by have h := same_any AOA AOB M.length M.length cOA cOB M M w rfl rfl (hOA.below hb) (hOB.below hb) (by have := LP.out; omega) (by have := LP.out; omega); rw [decide_eq_true rfl] at h; exact h)
    obtain ⟨AOC, cOC, rfl, -, -, -, hOC⟩ := NOC.out
    obtain ⟨AOD, cOD, rfl, -, -, -, hOD⟩ := NOD.out
    have S1 := hide (fun w (hb : Below w14.heap.size w14 w) => by have h := same_any AOC AOD D.length D.length cOC cOD D D w rfl rfl (hOC.below hb) (hOD.below hb) (by have := LD.out; omega) (by have := LD.out; omega); rw [decide_eq_true rfl] at h; exact h)
    obtain ⟨AOE, cOE, rfl, -, -, -, hOE⟩ := NOE.out
    obtain ⟨AOF, cOF, rfl, -, -, -, hOF⟩ := NOF.out
    have S2 := hide (fun w (hb : Below w14.heap.size w14 w) => by have h := same_any AOE AOF R.length R.length cOE cOF R R w rfl rfl (hOE.below hb) (hOF.below hb) (by have := LR.out; omega) (by have := LR.out; omega); rw [decide_eq_true rfl] at h; exact h)
    have PI := hide (PL.out.below (kept_trans (kept_trans (kept_trans (kept_trans (kept_trans (kept_trans (kept_trans (kept_trans (kept_trans (K4.out) K5.out) K6.out) K7.out) K8.out) K9.out) K10.out) K11.out) K12.out) K13.out))
    have S3 := hide (fun w (hb : Below w14.heap.size w14 w) => show Calls Try.prog 22 #[.slice (some ⟨gr, 0, none⟩) ((m2 + 80 : Nat)) ((m2 + 80 : Nat)), .slice A m2 c, .agg #[.string nilT, .string nilT, .int .i64 (-7)]] w fun e w' => e = .returned (.bool true) ∧ Below w.heap.size w w' by
      obtain ⟨A', c', e', h1, h2, h3, h4⟩ := PI.out
      rw [HL.out] at e'
      injection e' with e1 _ e3
      subst e1 e3
      have h := intact_any (some ⟨gr, 0, none⟩) A (m2 + 80) m2 (m2 + 80) c L mk w rfl HL.out ((PF.out.below (kept_trans (kept_trans (kept_trans (kept_trans (kept_trans (kept_trans (kept_trans (K6.out) K7.out) K8.out) K9.out) K10.out) K11.out) K12.out) K13.out)).below hb) (h4.below hb) (Nat.le_refl _) (by have := hnl.out; omega) (by have := hnl.out; omega)
      rw [hmk] at h
      exact h)
    have B1 := hide (kept_refl w14)
    have BW := hide (kept_trans K0.out (kept_trans (kept_trans (kept_trans (kept_trans (kept_trans (kept_trans (kept_trans (kept_trans (kept_trans (kept_trans (kept_trans (kept_trans (K1.out) K2.out) K3.out) K4.out) K5.out) K6.out) K7.out) K8.out) K9.out) K10.out) K11.out) K12.out) K13.out))
    have htt : (t == t) = true := by cases t <;> rfl
    have huu : (u == u) = true := by cases u <;> rfl
    have hee : (E == E) = true := by simp
    clear hOA hOB hOC hOD hOE hOF NOA NOB NOC NOD NOE NOF OA OB OC OD OE OF XA XB MK PL PO PF TW PI LP LD LR K0 K1 K2 K3 K4 K5 K6 K7 K8 K9 K10 K11 K12 K13
    go_wp2_with (first
      | (go_at_call 13; (with_reducible refine (S0.out _ B1.out).mono ?_); rintro e wb0 ⟨rfl, qb0, rfl⟩)
      | (go_at_call 13; (with_reducible refine (S1.out _ (kept_drewN (kept_refl w14) _)).mono ?_); rintro e wb1 ⟨rfl, qb1, rfl⟩)
      | (go_at_call 13; (with_reducible refine (S2.out _ (kept_drewN (kept_refl w14) _)).mono ?_); rintro e wb2 ⟨rfl, qb2, rfl⟩)
      | (go_at_call 22; (with_reducible refine (S3.out _ (kept_drewN (kept_refl w14) _)).mono ?_); rintro e w18 ⟨rfl, hb18⟩)
      | (go_at_call 3; (with_reducible refine (RUN.out _).mono ?_); rintro e w19 ⟨rfl, hb19⟩))
    go_ret
    exact ⟨rfl, kept_trans (kept_trans (kept_drewN BW.out _) hb18) hb19⟩
set_option maxRecDepth 100000 in
theorem lifted (os : Os) (started : os.Started) (H : Type) (enc : TypeId × Value → H) :
    ReturnsInHanded {} Try.checked os 4 .any (Rows.kvTellsSpec.pre6 enc Try.prog Try.f4 Rows.kvTellsRow.domain false) (Rows.kvTellsSpec.post enc Try.prog Try.f4 false true false false) := by
  refine returnsInHanded_of_change_sized (C := Try.checked) own started (by kernel_rfl) Try.func4
    (ChangeSpec.witness6 (enc := enc) (C := Try.checked) false ⟨#[], #[.slice none 0 0, .string ⟨#[]⟩, .string ⟨#[]⟩, .agg #[.string ⟨#[]⟩, .string ⟨#[]⟩]], []⟩ 8 (by kernel_rfl) (by kernel_rfl) (by kernel_rfl) (by kernel_rfl)) ?_
  intro W base args ds gs before hval0 hW _ hsz0 _
  have hval : ∀ (j : Nat) t v, Try.f4.params[j]? = some t → args[j]? = some v → Value.okWide Try.prog W .any base t v := hval0
  have hW' := hW
  obtain ⟨p, q, hA0, hV, rfl, _, _⟩ := hW
  have hA : DataW.TrodAll enc Try.prog W 0 (fun _ => true) true Try.f4.params.toList args.toList ds p := hA0
  have hsz : (DataW.weightsEach Try.prog (Try.f4.params.toList ++ Rows.kvTellsSpec.plain.varTypes Try.prog) (ds ++ gs)).all (· ≤ reachBytes) = true := hsz0
  rw [Try.params4] at hA hval hsz
  obtain ⟨v0, vs0, d0, ds0, p0, q0, hargs, rfl, rfl, h0, r0⟩ := trodAll_cons hA
  obtain ⟨v1, vs1, d1, ds1, p1, q1, rfl, rfl, rfl, h1, r1⟩ := trodAll_cons r0
  obtain ⟨v2, vs2, d2, ds2, p2, q2, rfl, rfl, rfl, h2, r2⟩ := trodAll_cons r1
  obtain ⟨v3, vs3, d3, ds3, p3, q3, rfl, rfl, rfl, h3, r3⟩ := trodAll_cons r2
  obtain ⟨rfl, rfl, rfl⟩ := trodAll_nil r3
  obtain rfl : args = #[v0, v1, v2, v3] := by cases args; simp_all
  obtain ⟨rfl, rfl⟩ := trodVars_none hV
  have k0 := h0
  have lt0 : ∀ x ∈ p0, x.block < W.heap.size := by obtain ⟨m, hm⟩ := k0; exact DataW.trod_lt m _ _ _ hm
  obtain ⟨A0, n0, c0, rfl⟩ := okWide_slice Try.underlying22 (hval 0 22 v0 rfl rfl)
  obtain ⟨z0, s0⟩ := pairs_in (j := 0) h0 hsz rfl rfl
  have k1 := h1
  have lt1 : ∀ x ∈ p1, x.block < W.heap.size := by obtain ⟨m, hm⟩ := k1; exact DataW.trod_lt m _ _ _ hm
  obtain ⟨a1, rfl, s1⟩ := str_in (j := 1) (hval 1 9 v1 rfl rfl) h1 hsz rfl rfl
  have k2 := h2
  have lt2 : ∀ x ∈ p2, x.block < W.heap.size := by obtain ⟨m, hm⟩ := k2; exact DataW.trod_lt m _ _ _ hm
  obtain ⟨a2, rfl, s2⟩ := str_in (j := 2) (hval 2 9 v2 rfl rfl) h2 hsz rfl rfl
  have k3 := h3
  have lt3 : ∀ x ∈ p3, x.block < W.heap.size := by obtain ⟨m, hm⟩ := k3; exact DataW.trod_lt m _ _ _ hm
  obtain ⟨x3, y3, rfl⟩ := span_in (hval 3 35 v3 rfl rfl) h3
  clear hA0 hval0
  refine (walk A0 n0 c0 z0 a1 a2 x3 y3 W s0 s1 s2).mono fun e W' ⟨he, bel⟩ => ?_
  subst he
  exact ⟨_, rfl, _, _, _, [], _, [], hW', trodAll_mk1 (shut_bool Try.underlying4 _), (trodAll_cons_mk (Below.trod laidOut (by kernel_rfl) (of_decide_eq_true (by kernel_rfl)) k0 bel lt0) (trodAll_cons_mk (Below.trod laidOut (by kernel_rfl) (of_decide_eq_true (by kernel_rfl)) k1 bel lt1) (trodAll_cons_mk (Below.trod laidOut (by kernel_rfl) (of_decide_eq_true (by kernel_rfl)) k2 bel lt2) (trodAll_cons_mk (Below.trod laidOut (by kernel_rfl) (of_decide_eq_true (by kernel_rfl)) k3 bel lt3) trodAll_mk0)))), rfl, bel.frame _, fun h => by cases h⟩
theorem over : Rows.kvTellsRow.holds Try.pinned (OpenSpec.ofChange Rows.kvTellsSpec) :=
  OpenClaim.holds_of_wide 4 Try.f4 rfl rfl rfl rfl rfl rfl rfl ⟨rfl, rfl, rfl, rfl, rfl⟩ rfl rfl rfl rfl rfl (by kernel_rfl) Try.func4 (by kernel_rfl)
    (of_decide_eq_true (by kernel_rfl)) (by unfold Func.isWrapper; first | (rw [if_pos (by decide +kernel)]; kernel_rfl) | (rw [if_neg (by decide +kernel)]; exact ⟨rfl, rfl⟩))
    (fun os started H enc _ => lifted os started H enc)
theorem proved : Rows.KvTellsSaid := over
end Go.Proofs.Ytmcemijipplkgaa.kvTells
