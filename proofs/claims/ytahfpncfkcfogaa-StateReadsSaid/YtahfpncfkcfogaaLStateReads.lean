/- Proved: the law StateReads returns true. Conditions: none beyond the row's own. -/
import Derived.Test.YtahfpncfkcfogaaGa
import Derived.Test.YtahfpncfkcfogaaGq
import Derived.Deep.DeepCutAuto
namespace Go.Proofs.Ytahfpncfkcfogaa.stateReads
open Go.ChangeShapes Go.WideShapes Go.ChangeAt Go.RowKit
theorem up_get {s : Sm} {x : Cm} {o : Ow} (hr : rightC x = true) (hc : x.c = 1) (ho : s.o[0]? = some o) (hq : o.s < x.q) : applyP s x = (⟨(runP s.l x).1, s.o.set 0 ⟨x.q, (runP s.l x).2⟩⟩, (runP s.l x).2) := by
  have hz : sameC x c_zeroC = false := by
    cases h : sameC x c_zeroC
    · rfl
    · rw [sameC_iff] at h
      rw [h] at hc; cases hc
  exact apply_new hr hz (k := 0) hc ho hq
theorem seq_bounds {o : Ow} (h : mayO o = true) : 0 ≤ o.s ∧ o.s ≤ 1099511627776 := by
  unfold mayO at h
  split at h
  · rename_i h0; omega
  · simp only [Bool.and_eq_true, decide_eq_true_eq] at h
    omega
theorem set_zero {M : List Co} {l : List Ow} {n : Int} {r : Re} (h : ows M = l.set 0 ⟨n, r⟩) (h8 : M.length = 8) : ∃ x, M[0]? = some x ∧ x.o.s = n := by
  obtain ⟨x, hx⟩ : ∃ x, M[0]? = some x := ⟨_, List.getElem?_eq_getElem (by rw [h8]; omega)⟩
  have h1 := ows_at hx
  rw [h] at h1
  have hl : 0 < l.length := by
    have := congrArg List.length h
    rw [ows_len, List.length_set] at this
    omega
  rw [List.getElem?_set_self hl] at h1
  exact ⟨x, hx, by rw [← Option.some.inj h1]⟩
set_option maxRecDepth 100000 in
set_option maxHeartbeats 16000000 in
theorem walk (A : Option Addr) (n cc : Nat) (it : Nat → Cm) (key lo hi : ByteArray) (W : World) (h : CmsIn W A n cc it) (_ : key.size ≤ 140737488351232) (_ : lo.size ≤ 140737488351232) (_ : hi.size ≤ 140737488351232) :
    Calls Try.prog 9 #[.slice A n cc, .string key, .string lo, .string hi] W fun e w' => e = .returned (.bool true) ∧ Below W.heap.size W w' := by
  have RUN := hide (fun w => runs_any w)
  have hm60 : min n 60 ≤ 60 := Nat.min_le_right _ _
  have HC := hide (h.cml (min n 60) (Nat.min_le_left _ _))
  have HCL := hide (cmsL_len it (min n 60))
  have HSH := hide (fun w => short_any A n cc w h.le h.room)
  clear h
  generalize cmsL it (min n 60) = cs at HC HCL
  generalize min n 60 = m at HCL HSH hm60
  have HP := hide (play0 A cc m cs W HC.out HCL.out hm60)
  go_enter Try.func9, Try.ntmps9
  go_upto_region 2 with (first
    | (go_at_call 14; (with_reducible refine (HSH.out _).mono ?_); rintro e w2 ⟨rfl, rfl⟩)
    | (go_at_call 11; (with_reducible refine HP.out.mono ?_); rintro e w2 ⟨p, M, v, R, rfl, hn, hr, hi, hb⟩; have H8 := hide hn.eight; have H1 := hide hn.one)
    | ((with_reducible refine wpList_store49n ?_ ?_ H1.out H8.out ?_); rfl; rfl))
  have HU := hide (play0_up cs)
  have HRs := hide (play0_right cs (by rw [HCL.out]; omega))
  obtain ⟨S, hS⟩ : ∃ S, playP zeroS cs = S := ⟨_, rfl⟩
  rw [hS] at hn hi HU HRs
  clear hS
  obtain ⟨s, rs⟩ := S
  dsimp only at hn hi HU HRs
  rw [HCL.out] at HU HRs
  have kb := kept_trans hb (kept_alloc (kept_refl w2) (.cells (stc p M) 30))
  have K2 := hide kb
  have RT := hide (Row.new w2 30 (stc p M))
  have NS := hide (hn.below (kept_alloc (kept_refl w2) (.cells (stc p M) 30))).isS
  clear hn hr hi hb kb HP HC HCL HSH H1
  generalize w2.alloc (.cells (stc p M) 30) = w3 at K2 RT NS ⊢
  generalize w2.heap.size = g9 at RT ⊢
  obtain ⟨Ap, cp, hp, _⟩ := NS.out.pin
  subst hp
  obtain ⟨ow, how, _, _⟩ := NS.out.fine.at_ (k := 0) (by omega)
  have hown : s.o[0]? = some ow.o := by rw [← NS.out.is]; exact ows_at how
  have hsq := seq_bounds (HRs.out.own ow.o (List.mem_of_getElem? hown))
  have HOW := hide hown
  obtain ⟨nx, hnx⟩ : ∃ nx, ow.o.s + 1 = nx := ⟨_, rfl⟩
  have hwr : IntKind.i64.wrap (ow.o.s + 1) = nx := by rw [IntKind.wrap_i64]; omega
  have HNX := hide (show ow.o.s < nx by omega)
  have c0 : w3.cell? ⟨g9, 1, none⟩ = some (.int .i64 ow.o.s) := (RT.out.owner49 how).1
  clear hsq hown how hnx
  go_upto_region 3 with (fail)
  clear hwr c0
  go_upto_region 5 with (fail)
  have RG := hide ((Row.new w3 35 #[.int .i64 1, .int .i64 1, .int .i64 nx, .string key, .string { data := #[] }, .string { data := #[] }, .string { data := #[] }]).alloc (.cells #[.int .i64 5, .int .i64 1, .int .i64 nx, .string lo, .string hi, .string { data := #[] }, .string { data := #[] }] 35))
  have RH := hide (Row.new (w3.alloc (.cells #[.int .i64 1, .int .i64 1, .int .i64 nx, .string key, .string { data := #[] }, .string { data := #[] }, .string { data := #[] }] 35)) 35 #[.int .i64 5, .int .i64 1, .int .i64 nx, .string lo, .string hi, .string { data := #[] }, .string { data := #[] }])
  have hs : (w3.alloc (.cells #[.int .i64 1, .int .i64 1, .int .i64 nx, .string key, .string { data := #[] }, .string { data := #[] }, .string { data := #[] }] 35)).heap.size = w3.heap.size + 1 := by simp
  rw [hs] at RH
  have kb := kept_alloc (kept_alloc (kept_refl w3) (.cells #[.int .i64 1, .int .i64 1, .int .i64 nx, .string key, .string { data := #[] }, .string { data := #[] }, .string { data := #[] }] 35)) (.cells #[.int .i64 5, .int .i64 1, .int .i64 nx, .string lo, .string hi, .string { data := #[] }, .string { data := #[] }] 35)
  have K4 := hide (kept_trans K2.out kb)
  have RT4 := hide (RT.out.below kb RT.out.lt)
  have NS4 := hide (NS.out.below kb)
  clear hs kb K2 RT NS
  generalize (w3.alloc (.cells #[.int .i64 1, .int .i64 1, .int .i64 nx, .string key, .string { data := #[] }, .string { data := #[] }, .string { data := #[] }] 35)).alloc (.cells #[.int .i64 5, .int .i64 1, .int .i64 nx, .string lo, .string hi, .string { data := #[] }, .string { data := #[] }] 35) = w4 at RG RH K4 RT4 NS4 ⊢
  generalize w3.heap.size = gg at RG RH ⊢
  have HQ := hide (show ∀ wz : World, Below w4.heap.size w4 wz → Row wz gg 35 #[.int .i64 1, .int .i64 1, .int .i64 nx, .string key, .string { data := #[] }, .string { data := #[] }, .string { data := #[] }] ∧ Row wz (gg + 1) 35 #[.int .i64 5, .int .i64 1, .int .i64 nx, .string lo, .string hi, .string { data := #[] }, .string { data := #[] }] ∧ Row wz g9 30 (stc (.slice Ap s.l.length cp) M) ∧ IsS wz (.slice Ap s.l.length cp) M s ∧ Below W.heap.size W wz from fun wz hz => ⟨RG.out.below hz RG.out.lt, RH.out.below hz RH.out.lt, RT4.out.below hz RT4.out.lt, NS4.out.below hz, kept_trans K4.out hz⟩)
  obtain ⟨a0, a1, a2, a3, a4, a5, a6⟩ := (seven_of (x := ⟨1, 1, nx, key, noT, noT, noT⟩) RG.out).cells
  obtain ⟨b0, b1, b2, b3, b4, b5, b6⟩ := (seven_of (x := ⟨5, 1, nx, lo, hi, noT, noT⟩) RH.out).cells
  unfold noT at a4 a5 a6 b5 b6
  dsimp only at a0 a1 a2 a3 a4 a5 a6 b0 b1 b2 b3 b4 b5 b6
  have hr1 : ∀ w, Calls Try.prog 27 #[.agg #[.int .i64 1, .int .i64 1, .int .i64 nx, .string key, .string { data := #[] }, .string { data := #[] }, .string { data := #[] }]] w fun e w' => e = .returned (.bool (rightC ⟨1, 1, nx, key, noT, noT, noT⟩)) ∧ Below w.heap.size w w' := fun w => c_right_any 1 1 nx key noT noT noT w
  have hr2 : ∀ w, Calls Try.prog 27 #[.agg #[.int .i64 5, .int .i64 1, .int .i64 nx, .string lo, .string hi, .string { data := #[] }, .string { data := #[] }]] w fun e w' => e = .returned (.bool (rightC ⟨5, 1, nx, lo, hi, noT, noT⟩)) ∧ Below w.heap.size w w' := fun w => c_right_any 5 1 nx lo hi noT noT w
  obtain ⟨t1, e1⟩ : ∃ t, rightC ⟨1, 1, nx, key, noT, noT, noT⟩ = t := ⟨_, rfl⟩
  obtain ⟨t2, e2⟩ : ∃ t, rightC ⟨5, 1, nx, lo, hi, noT, noT⟩ = t := ⟨_, rfl⟩
  rw [e1] at hr1
  rw [e2] at hr2
  have E1 := hide e1
  have E2 := hide e2
  have K3 := hide (kept_refl w4)
  clear e1 e2 RG RH RT4 NS4 K4
  cases t1
  case false => 
    go_wp2_with (first
      | (go_at_call 27; (with_reducible refine (hr1 _).mono ?_); rintro e wz ⟨rfl, hbz⟩; replace K3 := hide (kept_trans K3.out hbz); clear hbz; obtain ⟨ra, rb, rt, _, _⟩ := HQ.out _ K3.out; obtain ⟨a0, a1, a2, a3, a4, a5, a6⟩ := (seven_of (x := ⟨1, 1, nx, key, noT, noT, noT⟩) ra).cells; obtain ⟨b0, b1, b2, b3, b4, b5, b6⟩ := (seven_of (x := ⟨5, 1, nx, lo, hi, noT, noT⟩) rb).cells; unfold noT at a4 a5 a6 b5 b6; dsimp only at a0 a1 a2 a3 a4 a5 a6 b0 b1 b2 b3 b4 b5 b6)
      | (go_at_call 27; (with_reducible refine (hr2 _).mono ?_); rintro e wz ⟨rfl, hbz⟩; replace K3 := hide (kept_trans K3.out hbz); clear hbz; obtain ⟨ra, rb, rt, _, _⟩ := HQ.out _ K3.out; obtain ⟨a0, a1, a2, a3, a4, a5, a6⟩ := (seven_of (x := ⟨1, 1, nx, key, noT, noT, noT⟩) ra).cells; obtain ⟨b0, b1, b2, b3, b4, b5, b6⟩ := (seven_of (x := ⟨5, 1, nx, lo, hi, noT, noT⟩) rb).cells; unfold noT at a4 a5 a6 b5 b6; dsimp only at a0 a1 a2 a3 a4 a5 a6 b0 b1 b2 b3 b4 b5 b6)
      | (go_at_call 3; (with_reducible refine (RUN.out _).mono ?_); rintro e wr ⟨rfl, hbr⟩))
    go_ret
    exact ⟨rfl, kept_trans (HQ.out _ K3.out).2.2.2.2 hbr⟩
  cases t2
  case false => 
    go_wp2_with (first
      | (go_at_call 27; (with_reducible refine (hr1 _).mono ?_); rintro e wz ⟨rfl, hbz⟩; replace K3 := hide (kept_trans K3.out hbz); clear hbz; obtain ⟨ra, rb, rt, _, _⟩ := HQ.out _ K3.out; obtain ⟨a0, a1, a2, a3, a4, a5, a6⟩ := (seven_of (x := ⟨1, 1, nx, key, noT, noT, noT⟩) ra).cells; obtain ⟨b0, b1, b2, b3, b4, b5, b6⟩ := (seven_of (x := ⟨5, 1, nx, lo, hi, noT, noT⟩) rb).cells; unfold noT at a4 a5 a6 b5 b6; dsimp only at a0 a1 a2 a3 a4 a5 a6 b0 b1 b2 b3 b4 b5 b6)
      | (go_at_call 27; (with_reducible refine (hr2 _).mono ?_); rintro e wz ⟨rfl, hbz⟩; replace K3 := hide (kept_trans K3.out hbz); clear hbz; obtain ⟨ra, rb, rt, _, _⟩ := HQ.out _ K3.out; obtain ⟨a0, a1, a2, a3, a4, a5, a6⟩ := (seven_of (x := ⟨1, 1, nx, key, noT, noT, noT⟩) ra).cells; obtain ⟨b0, b1, b2, b3, b4, b5, b6⟩ := (seven_of (x := ⟨5, 1, nx, lo, hi, noT, noT⟩) rb).cells; unfold noT at a4 a5 a6 b5 b6; dsimp only at a0 a1 a2 a3 a4 a5 a6 b0 b1 b2 b3 b4 b5 b6)
      | (go_at_call 3; (with_reducible refine (RUN.out _).mono ?_); rintro e wr ⟨rfl, hbr⟩))
    go_ret
    exact ⟨rfl, kept_trans (HQ.out _ K3.out).2.2.2.2 hbr⟩
  go_upto_region 7 with (first
      | (go_at_call 27; (with_reducible refine (hr1 _).mono ?_); rintro e wz ⟨rfl, hbz⟩; replace K3 := hide (kept_trans K3.out hbz); clear hbz; obtain ⟨ra, rb, rt, _, _⟩ := HQ.out _ K3.out; obtain ⟨a0, a1, a2, a3, a4, a5, a6⟩ := (seven_of (x := ⟨1, 1, nx, key, noT, noT, noT⟩) ra).cells; obtain ⟨b0, b1, b2, b3, b4, b5, b6⟩ := (seven_of (x := ⟨5, 1, nx, lo, hi, noT, noT⟩) rb).cells; unfold noT at a4 a5 a6 b5 b6; dsimp only at a0 a1 a2 a3 a4 a5 a6 b0 b1 b2 b3 b4 b5 b6)
      | (go_at_call 27; (with_reducible refine (hr2 _).mono ?_); rintro e wz ⟨rfl, hbz⟩; replace K3 := hide (kept_trans K3.out hbz); clear hbz; obtain ⟨ra, rb, rt, _, _⟩ := HQ.out _ K3.out; obtain ⟨a0, a1, a2, a3, a4, a5, a6⟩ := (seven_of (x := ⟨1, 1, nx, key, noT, noT, noT⟩) ra).cells; obtain ⟨b0, b1, b2, b3, b4, b5, b6⟩ := (seven_of (x := ⟨5, 1, nx, lo, hi, noT, noT⟩) rb).cells; unfold noT at a4 a5 a6 b5 b6; dsimp only at a0 a1 a2 a3 a4 a5 a6 b0 b1 b2 b3 b4 b5 b6))
  obtain ⟨ra, rb, rt, ns, kw⟩ := HQ.out _ K3.out
  generalize wz = w5 at ra rb rt ns kw a0 a1 a2 a3 a4 a5 a6 b0 b1 b2 b3 b4 b5 b6 ⊢
  have RA := hide ra
  have RB := hide rb
  have RT := hide rt
  have NS := hide ns
  have KW := hide kw
  clear ra rb rt ns kw HQ hr1 hr2 K3
  have EG := hide (up_get (s := s) (x := ⟨1, 1, nx, key, noT, noT, noT⟩) E1.out rfl HOW.out HNX.out)
  have EH := hide (up_get (s := s) (x := ⟨5, 1, nx, lo, hi, noT, noT⟩) E2.out rfl HOW.out HNX.out)
  rw [run_1] at EG
  rw [run_5] at EH
  dsimp only at EG EH
  have AG := hide (apply_any (.slice Ap s.l.length cp) M s ⟨1, 1, nx, key, noT, noT, noT⟩ w5 NS.out HU.out.1 (by have := HU.out.2; omega))
  rw [EG.out] at AG
  unfold valC noT at AG
  dsimp only at AG
  go_upto_region 8 with (first
    | ((with_reducible refine wpList_load49 ?_ RT.out H8.out ?_); rfl)
    | (go_at_call 16; (with_reducible refine AG.out.mono ?_); rintro e w6 ⟨p7, M7, q7, rfl, hn, hq, hl, _, hb⟩; obtain ⟨A7, c7, rfl, _, _, _, _⟩ := hq.pin; have H87 := hide hn.eight; have H17 := hide hn.one)
    | (rw [zero_state]; (with_reducible refine wpList_store49 ?_ ?_ H17.out (pa_0 _).1 (L := zeroL) rfl H87.out ?_); rfl; rfl; have ZR := (pa_0 w6).2.setRow_other (show w6.heap.size + 1 ≠ w6.heap.size by omega) (stc p7 M7); obtain ⟨z0, z1, z2, z3, z4⟩ := ZR.five; have y0 := ZR.free 0; have y1 := ZR.free 1; have y2 := ZR.free 2; have y3 := ZR.free 3; have y4 := ZR.free 4))
  have hq := (show Mine _ w6 (.slice A7 0 c7) [] from hq)
  have pz := pa_1 w6 p7 M7 ⟨0, isB s.l key, (getP s.l key).v, (getP s.l key).n, []⟩ (.slice A7 0 c7)
  have kb := kept_trans hb pz.2.2
  have NS7 := hide (hn.below pz.2.2).isS
  have PQ7 := hide (hq.below pz.2.2).pin
  have RS7 := hide pz.1
  have RR7 := hide pz.2.1
  replace RA := hide (RA.out.below kb RA.out.lt)
  replace RB := hide (RB.out.below kb RB.out.lt)
  replace RT := hide (RT.out.below kb RT.out.lt)
  replace NS := hide (NS.out.below kb)
  replace KW := hide (kept_trans KW.out kb)
  have KB7 := hide kb
  have hw : (((((((w6.alloc (.cells (stc (.slice none 0 0) zeroL) 30)).alloc (.cells #[.int .i64 0, .bool false, .string { data := #[] }, .int .i64 0, .slice none 0 0] 25)).setRow w6.heap.size (stc p7 M7)).setCell ⟨w6.heap.size + 1, 0, none⟩ (.int .i64 0)).setCell ⟨w6.heap.size + 1, 1, none⟩ (.bool (isB s.l key))).setCell ⟨w6.heap.size + 1, 2, none⟩ (.string (getP s.l key).v)).setCell ⟨w6.heap.size + 1, 3, none⟩ (.int .i64 (getP s.l key).n)).setCell ⟨w6.heap.size + 1, 4, none⟩ (.slice A7 0 c7) = paW w6 p7 M7 ⟨0, isB s.l key, (getP s.l key).v, (getP s.l key).n, []⟩ (.slice A7 0 c7) := rfl
  rw [hw]
  clear hw hn hq hl hb pz kb z0 z1 z2 z3 z4 y0 y1 y2 y3 y4 ZR H17 a0 a1 a2 a3 a4 a5 a6 b0 b1 b2 b3 b4 b5 b6
  generalize paW w6 p7 M7 ⟨0, isB s.l key, (getP s.l key).v, (getP s.l key).n, []⟩ (.slice A7 0 c7) = w7 at NS7 PQ7 RS7 RR7 RA RB RT NS KW KB7 ⊢
  generalize w6.heap.size = g14 at RS7 RR7 ⊢
  obtain ⟨a0, a1, a2, a3, a4, a5, a6⟩ := (seven_of (x := ⟨1, 1, nx, key, noT, noT, noT⟩) RA.out).cells
  obtain ⟨b0, b1, b2, b3, b4, b5, b6⟩ := (seven_of (x := ⟨5, 1, nx, lo, hi, noT, noT⟩) RB.out).cells
  unfold noT at a4 a5 a6 b5 b6
  dsimp only at a0 a1 a2 a3 a4 a5 a6 b0 b1 b2 b3 b4 b5 b6
  have AH := hide (apply_any (.slice Ap s.l.length cp) M s ⟨5, 1, nx, lo, hi, noT, noT⟩ w7 NS.out HU.out.1 (by have := HU.out.2; omega))
  rw [EH.out] at AH
  unfold valC noT nilT at AH
  dsimp only at AH
  go_upto_region 9 with (first
    | ((with_reducible refine wpList_load49 ?_ RT.out H8.out ?_); rfl)
    | (go_at_call 16; (with_reducible refine AH.out.mono ?_); rintro e w8 ⟨p8, M8, q8, rfl, hn, hq, hl, _, hb⟩; obtain ⟨A8, c8, rfl, _, _, _, _⟩ := hq.pin; have H88 := hide hn.eight; have H18 := hide hn.one)
    | (rw [zero_state]; (with_reducible refine wpList_store49 ?_ ?_ H18.out (pa_0 _).1 (L := zeroL) rfl H88.out ?_); rfl; rfl; have ZR := (pa_0 w8).2.setRow_other (show w8.heap.size + 1 ≠ w8.heap.size by omega) (stc p8 M8); obtain ⟨z0, z1, z2, z3, z4⟩ := ZR.five; have y0 := ZR.free 0; have y1 := ZR.free 1; have y2 := ZR.free 2; have y3 := ZR.free 3; have y4 := ZR.free 4))
  have hq := (show Mine _ w8 (.slice A8 (rngP s.l lo hi).length c8) (rngP s.l lo hi) from hq)
  have pz := pa_1 w8 p8 M8 ⟨0, moreB s.l lo hi, nilT, 0, rngP s.l lo hi⟩ (.slice A8 (rngP s.l lo hi).length c8)
  have kb := kept_trans hb pz.2.2
  have NS8 := hide (hn.below pz.2.2).isS
  have PQ8 := hide (hq.below pz.2.2).pin
  have RS8 := hide pz.1
  have RR8 := hide pz.2.1
  replace RA := hide (RA.out.below kb RA.out.lt)
  replace RB := hide (RB.out.below kb RB.out.lt)
  replace RT := hide (RT.out.below kb RT.out.lt)
  replace NS := hide (NS.out.below kb)
  replace KW := hide (kept_trans KW.out kb)
  have KB8 := hide kb
  replace NS7 := hide (NS7.out.below kb)
  replace PQ7 := hide (PQ7.out.below kb)
  replace RS7 := hide (RS7.out.below kb RS7.out.lt)
  replace RR7 := hide (RR7.out.below kb RR7.out.lt)
  have hw : (((((((w8.alloc (.cells (stc (.slice none 0 0) zeroL) 30)).alloc (.cells #[.int .i64 0, .bool false, .string { data := #[] }, .int .i64 0, .slice none 0 0] 25)).setRow w8.heap.size (stc p8 M8)).setCell ⟨w8.heap.size + 1, 0, none⟩ (.int .i64 0)).setCell ⟨w8.heap.size + 1, 1, none⟩ (.bool (moreB s.l lo hi))).setCell ⟨w8.heap.size + 1, 2, none⟩ (.string { data := #[] })).setCell ⟨w8.heap.size + 1, 3, none⟩ (.int .i64 0)).setCell ⟨w8.heap.size + 1, 4, none⟩ (.slice A8 (rngP s.l lo hi).length c8) = paW w8 p8 M8 ⟨0, moreB s.l lo hi, nilT, 0, rngP s.l lo hi⟩ (.slice A8 (rngP s.l lo hi).length c8) := rfl
  rw [hw]
  clear hw hn hq hl hb pz kb z0 z1 z2 z3 z4 y0 y1 y2 y3 y4 ZR H18 a0 a1 a2 a3 a4 a5 a6 b0 b1 b2 b3 b4 b5 b6
  generalize paW w8 p8 M8 ⟨0, moreB s.l lo hi, nilT, 0, rngP s.l lo hi⟩ (.slice A8 (rngP s.l lo hi).length c8) = w9 at NS7 PQ7 RS7 RR7 NS8 PQ8 RS8 RR8 RA RB RT NS KW KB8 ⊢
  generalize w8.heap.size = g16 at RS8 RR8 ⊢
  have c0 := RT.out.pairs49
  have RG := hide (rget_any (.slice Ap s.l.length cp) s.l key w9 NS.out.pin (by have := NS.out.room; omega))
  go_upto_region 10 with (go_at_call 33; (with_reducible refine RG.out.mono ?_); rintro e w10 ⟨rfl, hb⟩)
  have kb := kept_trans hb (kept_alloc (kept_refl w10) (.cells #[.string (getP s.l key).k, .string (getP s.l key).v, .int .i64 (getP s.l key).n] 47))
  have RP := hide (Row.new w10 47 #[.string (getP s.l key).k, .string (getP s.l key).v, .int .i64 (getP s.l key).n])
  have NSB := hide (NS.out.below kb)
  have RTB := hide (RT.out.below kb RT.out.lt)
  have KB := hide kb
  clear hb kb c0 RG
  generalize w10.alloc (.cells #[.string (getP s.l key).k, .string (getP s.l key).v, .int .i64 (getP s.l key).n] 47) = w11 at RP NSB RTB KB ⊢
  generalize w10.heap.size = g18 at RP ⊢
  have c0 := RTB.out.pairs49
  have RN := hide (rrange_any (.slice Ap s.l.length cp) s.l lo hi w11 NSB.out.pin (by have := NSB.out.room; omega))
  go_upto_region 11 with (go_at_call 34; (with_reducible refine RN.out.mono ?_); rintro e w12 ⟨vm, rfl, hm, hb⟩; obtain ⟨Am, cm, rfl, _, _, _, _⟩ := hm.pin)
  have K12 := hide (kept_trans KB.out hb)
  have RP2 := hide (RP.out.below hb RP.out.lt)
  have HMP := hide hm.pin
  clear hb c0 RN hm KB RTB NSB RP
  obtain ⟨x8, hx8, ex8⟩ := set_zero (show ows M8 = s.o.set 0 ⟨nx, ⟨0, moreB s.l lo hi, nilT, 0, rngP s.l lo hi⟩⟩ from NS8.out.is) H88.out
  obtain ⟨B7, d7, hp7, _⟩ := NS7.out.pin
  obtain ⟨B8, d8, hp8, _⟩ := NS8.out.pin
  dsimp only at hp7 hp8
  subst hp7 hp8
  have HX8 := hide hx8
  have EX8 := hide ex8
  clear hx8 ex8
  have HM := hide (show ∀ wz : World, Below w12.heap.size w12 wz → (wz.cell? ⟨g14 + 1, 1, none⟩ = some (.bool (isB s.l key)) ∧ wz.cell? ⟨g14 + 1, 2, none⟩ = some (.string (getP s.l key).v) ∧ wz.cell? ⟨g14 + 1, 3, none⟩ = some (.int .i64 (getP s.l key).n)) ∧ (wz.cell? ⟨g18, 1, none⟩ = some (.string (getP s.l key).v) ∧ wz.cell? ⟨g18, 2, none⟩ = some (.int .i64 (getP s.l key).n)) ∧ (wz.cell? ⟨g14, 0, none⟩ = some (.slice B7 s.l.length d7) ∧ wz.cell? ⟨g9, 0, none⟩ = some (.slice Ap s.l.length cp) ∧ wz.cell? ⟨g16, 0, none⟩ = some (.slice B8 s.l.length d8)) ∧ (wz.cell? ⟨g16 + 1, 4, none⟩ = some (.slice A8 (rngP s.l lo hi).length c8) ∧ wz.cell? ⟨g16 + 1, 1, none⟩ = some (.bool (moreB s.l lo hi))) ∧ wz.cell? ⟨g16, 1, none⟩ = some (.int .i64 nx) from fun wz hz => by
    have k := kept_trans K12.out hz
    have r7 := (RR7.out.below k RR7.out.lt).five
    have r8 := (RR8.out.below k RR8.out.lt).five
    have rp := (RP2.out.below hz RP2.out.lt).three
    have o8 := ((RS8.out.below k RS8.out.lt).owner49 HX8.out).1
    rw [EX8.out] at o8
    exact ⟨⟨r7.2.1, r7.2.2.1, r7.2.2.2.1⟩, ⟨rp.2.1, rp.2.2⟩, ⟨(RS7.out.below k RS7.out.lt).pairs49, (RT.out.below k RT.out.lt).pairs49, (RS8.out.below k RS8.out.lt).pairs49⟩, ⟨r8.2.2.2.2, r8.2.1⟩, o8⟩)
  have PS := hide (show ∀ wz : World, Below w12.heap.size w12 wz → Pin wz (.slice B7 s.l.length d7) s.l ∧ Pin wz (.slice Ap s.l.length cp) s.l ∧ Pin wz (.slice B8 s.l.length d8) s.l ∧ Pin wz (.slice A8 (rngP s.l lo hi).length c8) (rngP s.l lo hi) ∧ Pin wz (.slice Am (rngP s.l lo hi).length cm) (rngP s.l lo hi) from fun wz hz => by
    have k := kept_trans K12.out hz
    exact ⟨NS7.out.pin.below k, NS.out.pin.below k, NS8.out.pin.below k, PQ8.out.below k, HMP.out.below hz⟩)
  have hlen : s.l.length ≤ 1000 := by have := HU.out.2; omega
  have hlen2 : (rngP s.l lo hi).length ≤ 8 := by unfold rngP; rw [List.length_take]; omega
  have S1 := hide (fun wz hz => psame_same _ _ s.l wz (PS.out wz hz).1 (PS.out wz hz).2.1 (by omega))
  have S2 := hide (fun wz hz => psame_same _ _ (rngP s.l lo hi) wz (PS.out wz hz).2.2.2.1 (PS.out wz hz).2.2.2.2 (by omega))
  have S3 := hide (fun wz hz => psame_same _ _ s.l wz (PS.out wz hz).2.2.1 (PS.out wz hz).2.1 (by omega))
  have KZ := hide (kept_refl w12)
  obtain ⟨⟨x1, x2, x3⟩, ⟨x4, x5⟩, ⟨x6, x7, x8⟩, ⟨x9, x10⟩, x11⟩ := HM.out w12 KZ.out
  have KW12 := hide (kept_trans KW.out K12.out)
  clear a0 a1 a2 a3 a4 a5 a6 b0 b1 b2 b3 b4 b5 b6 hlen hlen2
  generalize isB s.l key = tB at HM x1 ⊢
  generalize (getP s.l key).v = gv at HM x2 x4 RP2 ⊢
  generalize (getP s.l key).n = gn at HM x3 x5 RP2 ⊢
  generalize moreB s.l lo hi = tM at HM x10 ⊢
  go_wp2_with (first
    | (go_at_call 25; (with_reducible refine (S1.out _ KZ.out).mono ?_); rintro e wz ⟨rfl, hbz⟩; replace KZ := hide (kept_trans KZ.out hbz); clear hbz; obtain ⟨⟨x1, x2, x3⟩, ⟨x4, x5⟩, ⟨x6, x7, x8⟩, ⟨x9, x10⟩, x11⟩ := HM.out wz KZ.out)
    | (go_at_call 25; (with_reducible refine (S2.out _ KZ.out).mono ?_); rintro e wz ⟨rfl, hbz⟩; replace KZ := hide (kept_trans KZ.out hbz); clear hbz; obtain ⟨⟨x1, x2, x3⟩, ⟨x4, x5⟩, ⟨x6, x7, x8⟩, ⟨x9, x10⟩, x11⟩ := HM.out wz KZ.out)
    | (go_at_call 25; (with_reducible refine (S3.out _ KZ.out).mono ?_); rintro e wz ⟨rfl, hbz⟩; replace KZ := hide (kept_trans KZ.out hbz); clear hbz; obtain ⟨⟨x1, x2, x3⟩, ⟨x4, x5⟩, ⟨x6, x7, x8⟩, ⟨x9, x10⟩, x11⟩ := HM.out wz KZ.out)
    | (go_at_call 3; (with_reducible refine (RUN.out _).mono ?_); rintro e wr ⟨rfl, hbr⟩))
  go_ret
  exact ⟨rfl, kept_trans KW12.out (kept_trans KZ.out hbr)⟩
set_option maxRecDepth 100000 in
theorem lifted (os : Os) (started : os.Started) (H : Type) (enc : TypeId × Value → H) :
    ReturnsInHanded {} Try.checked os 9 .any (Rows.stateReadsSpec.pre6 enc Try.prog Try.f9 Rows.stateReadsRow.domain false) (Rows.stateReadsSpec.post enc Try.prog Try.f9 false true false false) := by
  refine returnsInHanded_of_change_sized (C := Try.checked) own started (by kernel_rfl) Try.func9
    (ChangeSpec.witness6 (enc := enc) (C := Try.checked) false ⟨#[], #[.slice none 0 0, .string ⟨#[]⟩, .string ⟨#[]⟩, .string ⟨#[]⟩], []⟩ 8 (by kernel_rfl) (by kernel_rfl) (by kernel_rfl) (by kernel_rfl)) ?_
  intro W base args ds gs before hval0 hW _ hsz0 _
  have hval : ∀ (j : Nat) t v, Try.f9.params[j]? = some t → args[j]? = some v → Value.okWide Try.prog W .any base t v := hval0
  have hW' := hW
  obtain ⟨p, q, hA0, hV, rfl, _, _⟩ := hW
  have hA : DataW.TrodAll enc Try.prog W 0 (fun _ => true) true Try.f9.params.toList args.toList ds p := hA0
  have hsz : (DataW.weightsEach Try.prog (Try.f9.params.toList ++ Rows.stateReadsSpec.plain.varTypes Try.prog) (ds ++ gs)).all (· ≤ reachBytes) = true := hsz0
  rw [Try.params9] at hA hval hsz
  obtain ⟨v0, vs0, d0, ds0, p0, q0, hargs, rfl, rfl, h0, r0⟩ := trodAll_cons hA
  obtain ⟨v1, vs1, d1, ds1, p1, q1, rfl, rfl, rfl, h1, r1⟩ := trodAll_cons r0
  obtain ⟨v2, vs2, d2, ds2, p2, q2, rfl, rfl, rfl, h2, r2⟩ := trodAll_cons r1
  obtain ⟨v3, vs3, d3, ds3, p3, q3, rfl, rfl, rfl, h3, r3⟩ := trodAll_cons r2
  obtain ⟨rfl, rfl, rfl⟩ := trodAll_nil r3
  obtain rfl : args = #[v0, v1, v2, v3] := by cases args; simp_all
  obtain ⟨rfl, rfl⟩ := trodVars_none hV
  have k0 := h0
  have lt0 : ∀ x ∈ p0, x.block < W.heap.size := by obtain ⟨m, hm⟩ := k0; exact DataW.trod_lt m _ _ _ hm
  obtain ⟨A0, n0, c0, rfl⟩ := okWide_slice Try.underlying39 (hval 0 39 v0 rfl rfl)
  obtain ⟨z0, s0⟩ := cmds_in (j := 0) h0 hsz rfl rfl
  have k1 := h1
  have lt1 : ∀ x ∈ p1, x.block < W.heap.size := by obtain ⟨m, hm⟩ := k1; exact DataW.trod_lt m _ _ _ hm
  obtain ⟨a1, rfl, s1⟩ := str_in (j := 1) (hval 1 9 v1 rfl rfl) h1 hsz rfl rfl
  have k2 := h2
  have lt2 : ∀ x ∈ p2, x.block < W.heap.size := by obtain ⟨m, hm⟩ := k2; exact DataW.trod_lt m _ _ _ hm
  obtain ⟨a2, rfl, s2⟩ := str_in (j := 2) (hval 2 9 v2 rfl rfl) h2 hsz rfl rfl
  have k3 := h3
  have lt3 : ∀ x ∈ p3, x.block < W.heap.size := by obtain ⟨m, hm⟩ := k3; exact DataW.trod_lt m _ _ _ hm
  obtain ⟨a3, rfl, s3⟩ := str_in (j := 3) (hval 3 9 v3 rfl rfl) h3 hsz rfl rfl
  clear hA0 hval0
  refine (walk A0 n0 c0 z0 a1 a2 a3 W s0 s1 s2 s3).mono fun e W' ⟨he, bel⟩ => ?_
  subst he
  exact ⟨_, rfl, _, _, _, [], _, [], hW', trodAll_mk1 (shut_bool Try.underlying4 _), (trodAll_cons_mk (Below.trod laidOut (by kernel_rfl) (of_decide_eq_true (by kernel_rfl)) k0 bel lt0) (trodAll_cons_mk (Below.trod laidOut (by kernel_rfl) (of_decide_eq_true (by kernel_rfl)) k1 bel lt1) (trodAll_cons_mk (Below.trod laidOut (by kernel_rfl) (of_decide_eq_true (by kernel_rfl)) k2 bel lt2) (trodAll_cons_mk (Below.trod laidOut (by kernel_rfl) (of_decide_eq_true (by kernel_rfl)) k3 bel lt3) trodAll_mk0)))), rfl, bel.frame _, fun h => by cases h⟩
theorem over : Rows.stateReadsRow.holds Try.pinned (OpenSpec.ofChange Rows.stateReadsSpec) :=
  OpenClaim.holds_of_wide 9 Try.f9 rfl rfl rfl rfl rfl rfl rfl ⟨rfl, rfl, rfl, rfl, rfl⟩ rfl rfl rfl rfl rfl (by kernel_rfl) Try.func9 (by kernel_rfl)
    (of_decide_eq_true (by kernel_rfl)) (by unfold Func.isWrapper; first | (rw [if_pos (by decide +kernel)]; kernel_rfl) | (rw [if_neg (by decide +kernel)]; exact ⟨rfl, rfl⟩))
    (fun os started H enc _ => lifted os started H enc)
theorem proved : Rows.StateReadsSaid := over
end Go.Proofs.Ytahfpncfkcfogaa.stateReads
