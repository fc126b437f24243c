/- Proved: the law StateApart returns true. Conditions: none beyond the row's own. -/
import Derived.Test.YtahfpncfkcfogaaGa
import Derived.Test.YtahfpncfkcfogaaGq
import Derived.Deep.DeepCutAuto
namespace Go.Proofs.Ytahfpncfkcfogaa.stateApart
open Go.ChangeShapes Go.WideShapes Go.ChangeAt Go.RowKit
set_option maxRecDepth 100000 in
set_option maxHeartbeats 16000000 in
theorem walk (A : Option Addr) (n cc : Nat) (it : Nat → Cm) (x y : Cm) (W : World) (h : CmsIn W A n cc it) (hx : CmOk x) (hy : CmOk y) :
    Calls Try.prog 10 #[.slice A n cc, .agg #[.int .i64 x.k, .int .i64 x.c, .int .i64 x.q, .string x.key, .string x.en, .string x.old, .string x.val], .agg #[.int .i64 y.k, .int .i64 y.c, .int .i64 y.q, .string y.key, .string y.en, .string y.old, .string y.val]] W fun e w' => e = .returned (.bool true) ∧ Below W.heap.size W w' := by
  obtain ⟨k, c, q, key, en, old, val⟩ := x
  obtain ⟨k', c', q', key', en', old', val'⟩ := y
  dsimp only
  have skey := hx.key
  have skey' := hy.key
  dsimp only at skey skey'
  clear hx hy
  have RUN := hide (fun w => runs_any w)
  have hm60 : min n 60 ≤ 60 := Nat.min_le_right _ _
  have HC := hide (h.cml (min n 60) (Nat.min_le_left _ _))
  have HCL := hide (cmsL_len it (min n 60))
  have HSH := hide (fun w => short_any A n cc w h.le h.room)
  have RA := hide ((Row.new W 35 #[.int .i64 k, .int .i64 c, .int .i64 q, .string key, .string en, .string old, .string val]).alloc (.cells #[.int .i64 k', .int .i64 c', .int .i64 q', .string key', .string en', .string old', .string val'] 35))
  have RB := hide (Row.new (W.alloc (.cells #[.int .i64 k, .int .i64 c, .int .i64 q, .string key, .string en, .string old, .string val] 35)) 35 #[.int .i64 k', .int .i64 c', .int .i64 q', .string key', .string en', .string old', .string val'])
  have hs : (W.alloc (.cells #[.int .i64 k, .int .i64 c, .int .i64 q, .string key, .string en, .string old, .string val] 35)).heap.size = W.heap.size + 1 := by simp
  rw [hs] at RB
  have K1 := hide (kept_alloc (kept_alloc (kept_refl W) (.cells #[.int .i64 k, .int .i64 c, .int .i64 q, .string key, .string en, .string old, .string val] 35)) (.cells #[.int .i64 k', .int .i64 c', .int .i64 q', .string key', .string en', .string old', .string val'] 35))
  clear h hs
  generalize cmsL it (min n 60) = cs at HC HCL
  generalize min n 60 = m at HCL HSH hm60
  go_enter Try.func10, Try.ntmps10
  go_upto_region 1 with (fail)
  generalize (W.alloc (.cells #[.int .i64 k, .int .i64 c, .int .i64 q, .string key, .string en, .string old, .string val] 35)).alloc (.cells #[.int .i64 k', .int .i64 c', .int .i64 q', .string key', .string en', .string old', .string val'] 35) = w1 at RA RB K1 ⊢
  have HP := hide (play0 A cc m cs w1 (HC.out.below K1.out) HCL.out hm60)
  go_upto_region 2 with (first
    | (go_at_call 14; (with_reducible refine (HSH.out _).mono ?_); rintro e w2 ⟨rfl, rfl⟩)
    | (go_at_call 11; (with_reducible refine HP.out.mono ?_); rintro e w2 ⟨p, M, v, R, rfl, hn, hr, hi, hb⟩; have H8 := hide hn.eight; have H1 := hide hn.one)
    | ((with_reducible refine wpList_store49n ?_ ?_ H1.out H8.out ?_); rfl; rfl))
  have HU := hide (play0_up cs)
  obtain ⟨S, hS⟩ : ∃ S, playP zeroS cs = S := ⟨_, rfl⟩
  rw [hS] at hn hi HU
  clear hS
  obtain ⟨s, rs⟩ := S
  dsimp only at hn hi HU
  rw [HCL.out] at HU
  have kb := kept_trans hb (kept_alloc (kept_refl w2) (.cells (stc p M) 30))
  have K2 := hide (kept_trans K1.out kb)
  have RA2 := hide (RA.out.below kb RA.out.lt)
  have RB2 := hide (RB.out.below kb RB.out.lt)
  have RT := hide (Row.new w2 30 (stc p M))
  have NS := hide (hn.below (kept_alloc (kept_refl w2) (.cells (stc p M) 30))).isS
  have NS0 := hide hn.is
  clear hn hr hi hb kb RA RB K1 HP HC HCL HSH H1
  generalize w2.alloc (.cells (stc p M) 30) = w3 at K2 RA2 RB2 RT NS ⊢
  generalize w2.heap.size = g7 at RT ⊢
  obtain ⟨Ap, cp, hp, _⟩ := NS.out.pin
  subst hp
  have z0 := RT.out.pairs49
  obtain ⟨a0, a1, a2, a3, a4, a5, a6⟩ := (seven_of (x := ⟨k, c, q, key, en, old, val⟩) RA2.out).cells
  obtain ⟨b0, b1, b2, b3, b4, b5, b6⟩ := (seven_of (x := ⟨k', c', q', key', en', old', val'⟩) RB2.out).cells
  dsimp only at a0 a1 a2 a3 a4 a5 a6 b0 b1 b2 b3 b4 b5 b6
  -- K2: what stays through the questions asked
  have HQ := hide (show ∀ wz : World, Below w3.heap.size w3 wz → Row wz W.heap.size 35 #[.int .i64 k, .int .i64 c, .int .i64 q, .string key, .string en, .string old, .string val] ∧ Row wz (W.heap.size + 1) 35 #[.int .i64 k', .int .i64 c', .int .i64 q', .string key', .string en', .string old', .string val'] ∧ Row wz g7 30 (stc (.slice Ap s.l.length cp) M) ∧ IsS wz (.slice Ap s.l.length cp) M s ∧ Below W.heap.size W wz from fun wz hz => ⟨RA2.out.below hz RA2.out.lt, RB2.out.below hz RB2.out.lt, RT.out.below hz RT.out.lt, NS.out.below hz, kept_trans K2.out hz⟩)
  have hr1 := fun w => c_right_any k c q key en old val w
  have hr2 := fun w => c_right_any k' c' q' key' en' old' val' w
  have hcl := fun w => clash_any k c q key en old val k' c' q' key' en' old' val' w (by omega) (by omega)
  obtain ⟨t1, e1⟩ : ∃ t, rightC ⟨k, c, q, key, en, old, val⟩ = t := ⟨_, rfl⟩
  obtain ⟨t2, e2⟩ : ∃ t, rightC ⟨k', c', q', key', en', old', val'⟩ = t := ⟨_, rfl⟩
  obtain ⟨t3, e3⟩ : ∃ t, clashC ⟨k, c, q, key, en, old, val⟩ ⟨k', c', q', key', en', old', val'⟩ = t := ⟨_, rfl⟩
  obtain ⟨t4, e4⟩ : ∃ t, (k == 0) = t := ⟨_, rfl⟩
  obtain ⟨t5, e5⟩ : ∃ t, (k' == 0) = t := ⟨_, rfl⟩
  obtain ⟨t6, e6⟩ : ∃ t, decide ((30 : Int) < (s.l.length : Int)) = t := ⟨_, rfl⟩
  rw [e1] at hr1
  rw [e2] at hr2
  rw [e3] at hcl
  have E1 := hide e1
  have E2 := hide e2
  have E3 := hide e3
  have E4 := hide e4
  have E5 := hide e5
  have E6 := hide e6
  have K3 := hide (kept_refl w3)
  clear e1 e2 e3 skey skey'
  cases t1
  case false =>
    go_wp2_with (first
      | (go_at_call 27; (with_reducible refine (hr1 _).mono ?_); rintro e wz ⟨rfl, hbz⟩; replace K3 := hide (kept_trans K3.out hbz); clear hbz; obtain ⟨ra, rb, rt, _, _⟩ := HQ.out _ K3.out; obtain ⟨a0, a1, a2, a3, a4, a5, a6⟩ := (seven_of (x := ⟨k, c, q, key, en, old, val⟩) ra).cells; obtain ⟨b0, b1, b2, b3, b4, b5, b6⟩ := (seven_of (x := ⟨k', c', q', key', en', old', val'⟩) rb).cells; have z0 := rt.pairs49; dsimp only at a0 a1 a2 a3 a4 a5 a6 b0 b1 b2 b3 b4 b5 b6)
      | (go_at_call 27; (with_reducible refine (hr2 _).mono ?_); rintro e wz ⟨rfl, hbz⟩; replace K3 := hide (kept_trans K3.out hbz); clear hbz; obtain ⟨ra, rb, rt, _, _⟩ := HQ.out _ K3.out; obtain ⟨a0, a1, a2, a3, a4, a5, a6⟩ := (seven_of (x := ⟨k, c, q, key, en, old, val⟩) ra).cells; obtain ⟨b0, b1, b2, b3, b4, b5, b6⟩ := (seven_of (x := ⟨k', c', q', key', en', old', val'⟩) rb).cells; have z0 := rt.pairs49; dsimp only at a0 a1 a2 a3 a4 a5 a6 b0 b1 b2 b3 b4 b5 b6)
      | (go_at_call 35; (with_reducible refine (hcl _).mono ?_); rintro e wz ⟨rfl, hbz⟩; replace K3 := hide (kept_trans K3.out hbz); clear hbz; obtain ⟨ra, rb, rt, _, _⟩ := HQ.out _ K3.out; obtain ⟨a0, a1, a2, a3, a4, a5, a6⟩ := (seven_of (x := ⟨k, c, q, key, en, old, val⟩) ra).cells; obtain ⟨b0, b1, b2, b3, b4, b5, b6⟩ := (seven_of (x := ⟨k', c', q', key', en', old', val'⟩) rb).cells; have z0 := rt.pairs49; dsimp only at a0 a1 a2 a3 a4 a5 a6 b0 b1 b2 b3 b4 b5 b6)
      | (go_at_call 3; (with_reducible refine (RUN.out _).mono ?_); rintro e wr ⟨rfl, hbr⟩))
    go_ret
    exact ⟨rfl, kept_trans K2.out (kept_trans K3.out hbr)⟩
  cases t2
  case false =>
    go_wp2_with (first
      | (go_at_call 27; (with_reducible refine (hr1 _).mono ?_); rintro e wz ⟨rfl, hbz⟩; replace K3 := hide (kept_trans K3.out hbz); clear hbz; obtain ⟨ra, rb, rt, _, _⟩ := HQ.out _ K3.out; obtain ⟨a0, a1, a2, a3, a4, a5, a6⟩ := (seven_of (x := ⟨k, c, q, key, en, old, val⟩) ra).cells; obtain ⟨b0, b1, b2, b3, b4, b5, b6⟩ := (seven_of (x := ⟨k', c', q', key', en', old', val'⟩) rb).cells; have z0 := rt.pairs49; dsimp only at a0 a1 a2 a3 a4 a5 a6 b0 b1 b2 b3 b4 b5 b6)
      | (go_at_call 27; (with_reducible refine (hr2 _).mono ?_); rintro e wz ⟨rfl, hbz⟩; replace K3 := hide (kept_trans K3.out hbz); clear hbz; obtain ⟨ra, rb, rt, _, _⟩ := HQ.out _ K3.out; obtain ⟨a0, a1, a2, a3, a4, a5, a6⟩ := (seven_of (x := ⟨k, c, q, key, en, old, val⟩) ra).cells; obtain ⟨b0, b1, b2, b3, b4, b5, b6⟩ := (seven_of (x := ⟨k', c', q', key', en', old', val'⟩) rb).cells; have z0 := rt.pairs49; dsimp only at a0 a1 a2 a3 a4 a5 a6 b0 b1 b2 b3 b4 b5 b6)
      | (go_at_call 35; (with_reducible refine (hcl _).mono ?_); rintro e wz ⟨rfl, hbz⟩; replace K3 := hide (kept_trans K3.out hbz); clear hbz; obtain ⟨ra, rb, rt, _, _⟩ := HQ.out _ K3.out; obtain ⟨a0, a1, a2, a3, a4, a5, a6⟩ := (seven_of (x := ⟨k, c, q, key, en, old, val⟩) ra).cells; obtain ⟨b0, b1, b2, b3, b4, b5, b6⟩ := (seven_of (x := ⟨k', c', q', key', en', old', val'⟩) rb).cells; have z0 := rt.pairs49; dsimp only at a0 a1 a2 a3 a4 a5 a6 b0 b1 b2 b3 b4 b5 b6)
      | (go_at_call 3; (with_reducible refine (RUN.out _).mono ?_); rintro e wr ⟨rfl, hbr⟩))
    go_ret
    exact ⟨rfl, kept_trans K2.out (kept_trans K3.out hbr)⟩
  cases t4
  case true =>
    go_wp2_with (first
      | (go_at_call 27; (with_reducible refine (hr1 _).mono ?_); rintro e wz ⟨rfl, hbz⟩; replace K3 := hide (kept_trans K3.out hbz); clear hbz; obtain ⟨ra, rb, rt, _, _⟩ := HQ.out _ K3.out; obtain ⟨a0, a1, a2, a3, a4, a5, a6⟩ := (seven_of (x := ⟨k, c, q, key, en, old, val⟩) ra).cells; obtain ⟨b0, b1, b2, b3, b4, b5, b6⟩ := (seven_of (x := ⟨k', c', q', key', en', old', val'⟩) rb).cells; have z0 := rt.pairs49; dsimp only at a0 a1 a2 a3 a4 a5 a6 b0 b1 b2 b3 b4 b5 b6)
      | (go_at_call 27; (with_reducible refine (hr2 _).mono ?_); rintro e wz ⟨rfl, hbz⟩; replace K3 := hide (kept_trans K3.out hbz); clear hbz; obtain ⟨ra, rb, rt, _, _⟩ := HQ.out _ K3.out; obtain ⟨a0, a1, a2, a3, a4, a5, a6⟩ := (seven_of (x := ⟨k, c, q, key, en, old, val⟩) ra).cells; obtain ⟨b0, b1, b2, b3, b4, b5, b6⟩ := (seven_of (x := ⟨k', c', q', key', en', old', val'⟩) rb).cells; have z0 := rt.pairs49; dsimp only at a0 a1 a2 a3 a4 a5 a6 b0 b1 b2 b3 b4 b5 b6)
      | (go_at_call 35; (with_reducible refine (hcl _).mono ?_); rintro e wz ⟨rfl, hbz⟩; replace K3 := hide (kept_trans K3.out hbz); clear hbz; obtain ⟨ra, rb, rt, _, _⟩ := HQ.out _ K3.out; obtain ⟨a0, a1, a2, a3, a4, a5, a6⟩ := (seven_of (x := ⟨k, c, q, key, en, old, val⟩) ra).cells; obtain ⟨b0, b1, b2, b3, b4, b5, b6⟩ := (seven_of (x := ⟨k', c', q', key', en', old', val'⟩) rb).cells; have z0 := rt.pairs49; dsimp only at a0 a1 a2 a3 a4 a5 a6 b0 b1 b2 b3 b4 b5 b6)
      | (go_at_call 3; (with_reducible refine (RUN.out _).mono ?_); rintro e wr ⟨rfl, hbr⟩))
    go_ret
    exact ⟨rfl, kept_trans K2.out (kept_trans K3.out hbr)⟩
  cases t5
  case true =>
    go_wp2_with (first
      | (go_at_call 27; (with_reducible refine (hr1 _).mono ?_); rintro e wz ⟨rfl, hbz⟩; replace K3 := hide (kept_trans K3.out hbz); clear hbz; obtain ⟨ra, rb, rt, _, _⟩ := HQ.out _ K3.out; obtain ⟨a0, a1, a2, a3, a4, a5, a6⟩ := (seven_of (x := ⟨k, c, q, key, en, old, val⟩) ra).cells; obtain ⟨b0, b1, b2, b3, b4, b5, b6⟩ := (seven_of (x := ⟨k', c', q', key', en', old', val'⟩) rb).cells; have z0 := rt.pairs49; dsimp only at a0 a1 a2 a3 a4 a5 a6 b0 b1 b2 b3 b4 b5 b6)
      | (go_at_call 27; (with_reducible refine (hr2 _).mono ?_); rintro e wz ⟨rfl, hbz⟩; replace K3 := hide (kept_trans K3.out hbz); clear hbz; obtain ⟨ra, rb, rt, _, _⟩ := HQ.out _ K3.out; obtain ⟨a0, a1, a2, a3, a4, a5, a6⟩ := (seven_of (x := ⟨k, c, q, key, en, old, val⟩) ra).cells; obtain ⟨b0, b1, b2, b3, b4, b5, b6⟩ := (seven_of (x := ⟨k', c', q', key', en', old', val'⟩) rb).cells; have z0 := rt.pairs49; dsimp only at a0 a1 a2 a3 a4 a5 a6 b0 b1 b2 b3 b4 b5 b6)
      | (go_at_call 35; (with_reducible refine (hcl _).mono ?_); rintro e wz ⟨rfl, hbz⟩; replace K3 := hide (kept_trans K3.out hbz); clear hbz; obtain ⟨ra, rb, rt, _, _⟩ := HQ.out _ K3.out; obtain ⟨a0, a1, a2, a3, a4, a5, a6⟩ := (seven_of (x := ⟨k, c, q, key, en, old, val⟩) ra).cells; obtain ⟨b0, b1, b2, b3, b4, b5, b6⟩ := (seven_of (x := ⟨k', c', q', key', en', old', val'⟩) rb).cells; have z0 := rt.pairs49; dsimp only at a0 a1 a2 a3 a4 a5 a6 b0 b1 b2 b3 b4 b5 b6)
      | (go_at_call 3; (with_reducible refine (RUN.out _).mono ?_); rintro e wr ⟨rfl, hbr⟩))
    go_ret
    exact ⟨rfl, kept_trans K2.out (kept_trans K3.out hbr)⟩
  cases t3
  case true =>
    go_wp2_with (first
      | (go_at_call 27; (with_reducible refine (hr1 _).mono ?_); rintro e wz ⟨rfl, hbz⟩; replace K3 := hide (kept_trans K3.out hbz); clear hbz; obtain ⟨ra, rb, rt, _, _⟩ := HQ.out _ K3.out; obtain ⟨a0, a1, a2, a3, a4, a5, a6⟩ := (seven_of (x := ⟨k, c, q, key, en, old, val⟩) ra).cells; obtain ⟨b0, b1, b2, b3, b4, b5, b6⟩ := (seven_of (x := ⟨k', c', q', key', en', old', val'⟩) rb).cells; have z0 := rt.pairs49; dsimp only at a0 a1 a2 a3 a4 a5 a6 b0 b1 b2 b3 b4 b5 b6)
      | (go_at_call 27; (with_reducible refine (hr2 _).mono ?_); rintro e wz ⟨rfl, hbz⟩; replace K3 := hide (kept_trans K3.out hbz); clear hbz; obtain ⟨ra, rb, rt, _, _⟩ := HQ.out _ K3.out; obtain ⟨a0, a1, a2, a3, a4, a5, a6⟩ := (seven_of (x := ⟨k, c, q, key, en, old, val⟩) ra).cells; obtain ⟨b0, b1, b2, b3, b4, b5, b6⟩ := (seven_of (x := ⟨k', c', q', key', en', old', val'⟩) rb).cells; have z0 := rt.pairs49; dsimp only at a0 a1 a2 a3 a4 a5 a6 b0 b1 b2 b3 b4 b5 b6)
      | (go_at_call 35; (with_reducible refine (hcl _).mono ?_); rintro e wz ⟨rfl, hbz⟩; replace K3 := hide (kept_trans K3.out hbz); clear hbz; obtain ⟨ra, rb, rt, _, _⟩ := HQ.out _ K3.out; obtain ⟨a0, a1, a2, a3, a4, a5, a6⟩ := (seven_of (x := ⟨k, c, q, key, en, old, val⟩) ra).cells; obtain ⟨b0, b1, b2, b3, b4, b5, b6⟩ := (seven_of (x := ⟨k', c', q', key', en', old', val'⟩) rb).cells; have z0 := rt.pairs49; dsimp only at a0 a1 a2 a3 a4 a5 a6 b0 b1 b2 b3 b4 b5 b6)
      | (go_at_call 3; (with_reducible refine (RUN.out _).mono ?_); rintro e wr ⟨rfl, hbr⟩))
    go_ret
    exact ⟨rfl, kept_trans K2.out (kept_trans K3.out hbr)⟩
  cases t6
  case true =>
    go_wp2_with (first
      | (go_at_call 27; (with_reducible refine (hr1 _).mono ?_); rintro e wz ⟨rfl, hbz⟩; replace K3 := hide (kept_trans K3.out hbz); clear hbz; obtain ⟨ra, rb, rt, _, _⟩ := HQ.out _ K3.out; obtain ⟨a0, a1, a2, a3, a4, a5, a6⟩ := (seven_of (x := ⟨k, c, q, key, en, old, val⟩) ra).cells; obtain ⟨b0, b1, b2, b3, b4, b5, b6⟩ := (seven_of (x := ⟨k', c', q', key', en', old', val'⟩) rb).cells; have z0 := rt.pairs49; dsimp only at a0 a1 a2 a3 a4 a5 a6 b0 b1 b2 b3 b4 b5 b6)
      | (go_at_call 27; (with_reducible refine (hr2 _).mono ?_); rintro e wz ⟨rfl, hbz⟩; replace K3 := hide (kept_trans K3.out hbz); clear hbz; obtain ⟨ra, rb, rt, _, _⟩ := HQ.out _ K3.out; obtain ⟨a0, a1, a2, a3, a4, a5, a6⟩ := (seven_of (x := ⟨k, c, q, key, en, old, val⟩) ra).cells; obtain ⟨b0, b1, b2, b3, b4, b5, b6⟩ := (seven_of (x := ⟨k', c', q', key', en', old', val'⟩) rb).cells; have z0 := rt.pairs49; dsimp only at a0 a1 a2 a3 a4 a5 a6 b0 b1 b2 b3 b4 b5 b6)
      | (go_at_call 35; (with_reducible refine (hcl _).mono ?_); rintro e wz ⟨rfl, hbz⟩; replace K3 := hide (kept_trans K3.out hbz); clear hbz; obtain ⟨ra, rb, rt, _, _⟩ := HQ.out _ K3.out; obtain ⟨a0, a1, a2, a3, a4, a5, a6⟩ := (seven_of (x := ⟨k, c, q, key, en, old, val⟩) ra).cells; obtain ⟨b0, b1, b2, b3, b4, b5, b6⟩ := (seven_of (x := ⟨k', c', q', key', en', old', val'⟩) rb).cells; have z0 := rt.pairs49; dsimp only at a0 a1 a2 a3 a4 a5 a6 b0 b1 b2 b3 b4 b5 b6)
      | (go_at_call 3; (with_reducible refine (RUN.out _).mono ?_); rintro e wr ⟨rfl, hbr⟩))
    go_ret
    exact ⟨rfl, kept_trans K2.out (kept_trans K3.out hbr)⟩
  go_upto_region 4 with (first
    | (go_at_call 27; (with_reducible refine (hr1 _).mono ?_); rintro e wz ⟨rfl, hbz⟩; replace K3 := hide (kept_trans K3.out hbz); clear hbz; obtain ⟨ra, rb, rt, _, _⟩ := HQ.out _ K3.out; obtain ⟨a0, a1, a2, a3, a4, a5, a6⟩ := (seven_of (x := ⟨k, c, q, key, en, old, val⟩) ra).cells; obtain ⟨b0, b1, b2, b3, b4, b5, b6⟩ := (seven_of (x := ⟨k', c', q', key', en', old', val'⟩) rb).cells; have z0 := rt.pairs49; dsimp only at a0 a1 a2 a3 a4 a5 a6 b0 b1 b2 b3 b4 b5 b6)
    | (go_at_call 27; (with_reducible refine (hr2 _).mono ?_); rintro e wz ⟨rfl, hbz⟩; replace K3 := hide (kept_trans K3.out hbz); clear hbz; obtain ⟨ra, rb, rt, _, _⟩ := HQ.out _ K3.out; obtain ⟨a0, a1, a2, a3, a4, a5, a6⟩ := (seven_of (x := ⟨k, c, q, key, en, old, val⟩) ra).cells; obtain ⟨b0, b1, b2, b3, b4, b5, b6⟩ := (seven_of (x := ⟨k', c', q', key', en', old', val'⟩) rb).cells; have z0 := rt.pairs49; dsimp only at a0 a1 a2 a3 a4 a5 a6 b0 b1 b2 b3 b4 b5 b6)
    | (go_at_call 35; (with_reducible refine (hcl _).mono ?_); rintro e wz ⟨rfl, hbz⟩; replace K3 := hide (kept_trans K3.out hbz); clear hbz; obtain ⟨ra, rb, rt, _, _⟩ := HQ.out _ K3.out; obtain ⟨a0, a1, a2, a3, a4, a5, a6⟩ := (seven_of (x := ⟨k, c, q, key, en, old, val⟩) ra).cells; obtain ⟨b0, b1, b2, b3, b4, b5, b6⟩ := (seven_of (x := ⟨k', c', q', key', en', old', val'⟩) rb).cells; have z0 := rt.pairs49; dsimp only at a0 a1 a2 a3 a4 a5 a6 b0 b1 b2 b3 b4 b5 b6))
  obtain ⟨ra, rb, rt, ns, kw⟩ := HQ.out _ K3.out
  have hs30 : s.l.length ≤ 30 := by
    have := E6.out
    rw [decide_eq_false_iff_not] at this
    omega
  have RT4 := hide rt
  have NS4 := hide ns
  have KW := hide kw
  have RA5 := hide ra
  have RB5 := hide rb
  clear ra rb rt ns kw a0 a1 a2 a3 a4 a5 a6 b0 b1 b2 b3 b4 b5 b6 z0 hr1 hr2 hcl HQ K3 RA2 RB2 RT NS e4 e5 e6
  generalize wz = w4 at RT4 NS4 KW RA5 RB5 ⊢
  have P5 := hide (play2 (.slice Ap s.l.length cp) M s ⟨k, c, q, key, en, old, val⟩ ⟨k', c', q', key', en', old', val'⟩ w4 NS4.out HU.out.1 (by omega))
  dsimp only at P5
  obtain ⟨a0, a1, a2, a3, a4, a5, a6⟩ := (seven_of (x := ⟨k, c, q, key, en, old, val⟩) RA5.out).cells
  obtain ⟨b0, b1, b2, b3, b4, b5, b6⟩ := (seven_of (x := ⟨k', c', q', key', en', old', val'⟩) RB5.out).cells
  dsimp only at a0 a1 a2 a3 a4 a5 a6 b0 b1 b2 b3 b4 b5 b6
  go_upto_region 5 with (first
    | ((with_reducible refine wpList_load49 ?_ RT4.out H8.out ?_); rfl)
    | (go_at_call 11; (with_reducible refine P5.out.mono ?_); rintro e w5 ⟨p5, M5, v5, R5, rfl, hn, hr, hi, hb⟩; have H85 := hide hn.eight; have H15 := hide hn.one)
    | ((with_reducible refine wpList_store49n ?_ ?_ H15.out H85.out ?_); rfl; rfl))
  have hb := kept_trans (kept_alloc (kept_refl _) _) hb
  have ka := kept_alloc (kept_refl w5) (.cells (stc p5 M5) 30)
  have kb := kept_trans hb ka
  have NS5x := hide (hn.below ka).isS
  have RS5 := hide (hr.below ka)
  have HI5 := hide hi
  have RT5 := hide (Row.new w5 30 (stc p5 M5))
  have KK5 := hide kb
  clear hn hr hi hb ka kb P5 H15 a0 a1 a2 a3 a4 a5 a6 b0 b1 b2 b3 b4 b5 b6
  generalize w5.alloc (.cells (stc p5 M5) 30) = w6 at NS5x RS5 RT5 KK5 ⊢
  generalize w5.heap.size = g9 at RT5 ⊢
  have RT4' := hide (RT4.out.below KK5.out RT4.out.lt)
  have NS4' := hide (NS4.out.below KK5.out)
  have RA6 := hide (RA5.out.below KK5.out RA5.out.lt)
  have RB6 := hide (RB5.out.below KK5.out RB5.out.lt)
  clear RT4 NS4 RA5 RB5
  have P6 := hide (play2 (.slice Ap s.l.length cp) M s ⟨k', c', q', key', en', old', val'⟩ ⟨k, c, q, key, en, old, val⟩ w6 NS4'.out HU.out.1 (by omega))
  dsimp only at P6
  obtain ⟨a0, a1, a2, a3, a4, a5, a6⟩ := (seven_of (x := ⟨k, c, q, key, en, old, val⟩) RA6.out).cells
  obtain ⟨b0, b1, b2, b3, b4, b5, b6⟩ := (seven_of (x := ⟨k', c', q', key', en', old', val'⟩) RB6.out).cells
  dsimp only at a0 a1 a2 a3 a4 a5 a6 b0 b1 b2 b3 b4 b5 b6
  go_upto_region 6 with (first
    | ((with_reducible refine wpList_load49 ?_ RT4'.out H8.out ?_); rfl)
    | (go_at_call 11; (with_reducible refine P6.out.mono ?_); rintro e w7 ⟨p6, M6, v6, R6, rfl, hn, hr, hi, hb⟩; have H86 := hide hn.eight; have H16 := hide hn.one)
    | ((with_reducible refine wpList_store49n ?_ ?_ H16.out H86.out ?_); rfl; rfl))
  have hb := kept_trans (kept_alloc (kept_refl _) _) hb
  have ka := kept_alloc (kept_refl w7) (.cells (stc p6 M6) 30)
  have kb := kept_trans hb ka
  have NS6x := hide (hn.below ka).isS
  have RS6 := hide (hr.below ka)
  have HI6 := hide hi
  have RT6 := hide (Row.new w7 30 (stc p6 M6))
  have KK6 := hide kb
  clear hn hr hi hb ka kb P6 H16 a0 a1 a2 a3 a4 a5 a6 b0 b1 b2 b3 b4 b5 b6
  generalize w7.alloc (.cells (stc p6 M6) 30) = w8 at NS6x RS6 RT6 KK6 ⊢
  generalize w7.heap.size = g11 at RT6 ⊢
  clear RT4' NS4' RA6 RB6
  have AP := hide (apply_apart HU.out.1 hs30 (show s.o.length = 8 by rw [← NS0.out, ows_len]; exact H8.out) E1.out E2.out (by have := E4.out; simpa using this) (by have := E5.out; simpa using this) E3.out)
  obtain ⟨x5, y5, e5, ex5, ey5⟩ := two_of (HI5.out.trans (show (playP s [⟨k, c, q, key, en, old, val⟩, ⟨k', c', q', key', en', old', val'⟩]).2 = [(applyP s ⟨k, c, q, key, en, old, val⟩).2, (applyP (applyP s ⟨k, c, q, key, en, old, val⟩).1 ⟨k', c', q', key', en', old', val'⟩).2] from rfl))
  obtain ⟨x6, y6, e6, ex6, ey6⟩ := two_of (HI6.out.trans (show (playP s [⟨k', c', q', key', en', old', val'⟩, ⟨k, c, q, key, en, old, val⟩]).2 = [(applyP s ⟨k', c', q', key', en', old', val'⟩).2, (applyP (applyP s ⟨k', c', q', key', en', old', val'⟩).1 ⟨k, c, q, key, en, old, val⟩).2] from rfl))
  subst e5 e6
  have RS5' := hide (RS5.out.below KK6.out)
  obtain ⟨A5, c5, hv5, hc5, hcc5, HE5⟩ := RS5'.out.els
  obtain ⟨A6, c6, hv6, hc6, hcc6, HE6⟩ := RS6.out.els
  subst hv5 hv6
  obtain ⟨d5, o5, hA5, hd5, ra0⟩ := els_reply HE5 (k := 0) (x := x5) rfl
  subst hA5
  obtain ⟨d5', o5', hA5, _, ra1⟩ := els_reply HE5 (k := 1) (x := y5) rfl
  cases hA5
  obtain ⟨d6, o6, hA6, hd6, rb0⟩ := els_reply HE6 (k := 0) (x := x6) rfl
  subst hA6
  obtain ⟨d6', o6', hA6, _, rb1⟩ := els_reply HE6 (k := 1) (x := y6) rfl
  cases hA6
  have hl5 : ([x5, y5] : List Cr).length = 2 := rfl
  have hl6 : ([x6, y6] : List Cr).length = 2 := rfl
  replace hc5 : 2 ≤ c5 := hc5
  replace hc6 : 2 ≤ c6 := hc6
  have MX5 := hide (RS5'.out.own x5 (by simp))
  have MY5 := hide (RS5'.out.own y5 (by simp))
  have MX6 := hide (RS6.out.own x6 (by simp))
  have MY6 := hide (RS6.out.own y6 (by simp))
  unfold Cr.p at ra0 ra1 rb0 rb1 MX5 MY5 MX6 MY6
  have RA0 := hide ra0
  have RA1 := hide ra1
  have RB0 := hide rb0
  have RB1 := hide rb1
  have HD5 := hide hd5
  have HD6 := hide hd6
  have RT5' := hide (RT5.out.below KK6.out RT5.out.lt)
  have NS5' := hide (NS5x.out.below KK6.out)
  have HSA := hide (show ∀ wq : World, Below w8.heap.size w8 wq → Calls Try.prog 19 #[.agg (stc p5 M5), .agg (stc p6 M6)] wq fun e w' => e = .returned (.bool true) ∧ Below wq.heap.size wq w' from fun wq hq => by
    have h := ssame_any p5 p6 M5 M6 _ _ wq (NS5'.out.below hq) (NS6x.out.below hq)
    rw [show eqS (playP s [⟨k, c, q, key, en, old, val⟩, ⟨k', c', q', key', en', old', val'⟩]).1 (playP s [⟨k', c', q', key', en', old', val'⟩, ⟨k, c, q, key, en, old, val⟩]).1 = true from (eqS_iff _ _).2 AP.out.1] at h
    exact h)
  have HR1 := hide (show ∀ wq : World, Below w8.heap.size w8 wq → Calls Try.prog 13 #[.agg #[.int .i64 x5.r.why, .bool x5.r.fnd, .string x5.r.val, .int .i64 x5.r.ver, .slice x5.A x5.r.l.length x5.c], .agg #[.int .i64 y6.r.why, .bool y6.r.fnd, .string y6.r.val, .int .i64 y6.r.ver, .slice y6.A y6.r.l.length y6.c]] wq fun e w' => e = .returned (.bool true) ∧ Below wq.heap.size wq w' from fun wq hq => by
    have h := replies_any x5.r y6.r _ _ wq (MX5.out.1.below hq).pin (MY6.out.1.below hq).pin (by have := MX5.out.2; omega) (by have := MY6.out.2; omega)
    rw [decide_eq_true (ex5.trans (AP.out.2.2.symm.trans ey6.symm))] at h
    exact h)
  have HR2 := hide (show ∀ wq : World, Below w8.heap.size w8 wq → Calls Try.prog 13 #[.agg #[.int .i64 y5.r.why, .bool y5.r.fnd, .string y5.r.val, .int .i64 y5.r.ver, .slice y5.A y5.r.l.length y5.c], .agg #[.int .i64 x6.r.why, .bool x6.r.fnd, .string x6.r.val, .int .i64 x6.r.ver, .slice x6.A x6.r.l.length x6.c]] wq fun e w' => e = .returned (.bool true) ∧ Below wq.heap.size wq w' from fun wq hq => by
    have h := replies_any y5.r x6.r _ _ wq (MY5.out.1.below hq).pin (MX6.out.1.below hq).pin (by have := MY5.out.2; omega) (by have := MX6.out.2; omega)
    rw [decide_eq_true (ey5.trans (AP.out.2.1.trans ex6.symm))] at h
    exact h)
  clear ex5 ey5 ex6 ey6 ra0 ra1 rb0 rb1 hd5 hd6 HE5 HE6 RS5 RS6 RS5' hl5 hl6
  have HB0 : Below w8.heap.size w8 w8 := kept_refl w8
  refine wp_region_sp (fun w' => Below w8.heap.size w8 w') (by kernel_rfl) (by kernel_rfl) (show Below w8.heap.size w8 w8.drew from kept_drewN HB0 1) ?_
  generalize hS : (fun w' => Below w8.heap.size w8 w') = S
  have l0 : ∀ z : Sp S, z.w.cell? ⟨d5, o5, none⟩ = some (.int .i64 x5.r.why) := by subst hS; exact fun z => (RA0.out.below HD5.out z.ok).1
  have l1 : ∀ z : Sp S, z.w.cell? ⟨d5, o5 + 1, none⟩ = some (.bool x5.r.fnd) := by subst hS; exact fun z => (RA0.out.below HD5.out z.ok).2.1
  have l2 : ∀ z : Sp S, z.w.cell? ⟨d5, o5 + 2, none⟩ = some (.string x5.r.val) := by subst hS; exact fun z => (RA0.out.below HD5.out z.ok).2.2.1
  have l3 : ∀ z : Sp S, z.w.cell? ⟨d5, o5 + 3, none⟩ = some (.int .i64 x5.r.ver) := by subst hS; exact fun z => (RA0.out.below HD5.out z.ok).2.2.2.1
  have l4 : ∀ z : Sp S, z.w.cell? ⟨d5, o5 + 4, none⟩ = some (Value.slice x5.A x5.r.l.length x5.c) := by subst hS; exact fun z => (RA0.out.below HD5.out z.ok).2.2.2.2
  have l5 : ∀ z : Sp S, z.w.cell? ⟨d5, o5 + 5, none⟩ = some (.int .i64 y5.r.why) := by subst hS; exact fun z => (RA1.out.below HD5.out z.ok).1
  have l6 : ∀ z : Sp S, z.w.cell? ⟨d5, o5 + 6, none⟩ = some (.bool y5.r.fnd) := by subst hS; exact fun z => (RA1.out.below HD5.out z.ok).2.1
  have l7 : ∀ z : Sp S, z.w.cell? ⟨d5, o5 + 7, none⟩ = some (.string y5.r.val) := by subst hS; exact fun z => (RA1.out.below HD5.out z.ok).2.2.1
  have l8 : ∀ z : Sp S, z.w.cell? ⟨d5, o5 + 8, none⟩ = some (.int .i64 y5.r.ver) := by subst hS; exact fun z => (RA1.out.below HD5.out z.ok).2.2.2.1
  have l9 : ∀ z : Sp S, z.w.cell? ⟨d5, o5 + 9, none⟩ = some (Value.slice y5.A y5.r.l.length y5.c) := by subst hS; exact fun z => (RA1.out.below HD5.out z.ok).2.2.2.2
  have l10 : ∀ z : Sp S, z.w.cell? ⟨d6, o6, none⟩ = some (.int .i64 x6.r.why) := by subst hS; exact fun z => (RB0.out.below HD6.out z.ok).1
  have l11 : ∀ z : Sp S, z.w.cell? ⟨d6, o6 + 1, none⟩ = some (.bool x6.r.fnd) := by subst hS; exact fun z => (RB0.out.below HD6.out z.ok).2.1
  have l12 : ∀ z : Sp S, z.w.cell? ⟨d6, o6 + 2, none⟩ = some (.string x6.r.val) := by subst hS; exact fun z => (RB0.out.below HD6.out z.ok).2.2.1
  have l13 : ∀ z : Sp S, z.w.cell? ⟨d6, o6 + 3, none⟩ = some (.int .i64 x6.r.ver) := by subst hS; exact fun z => (RB0.out.below HD6.out z.ok).2.2.2.1
  have l14 : ∀ z : Sp S, z.w.cell? ⟨d6, o6 + 4, none⟩ = some (Value.slice x6.A x6.r.l.length x6.c) := by subst hS; exact fun z => (RB0.out.below HD6.out z.ok).2.2.2.2
  have l15 : ∀ z : Sp S, z.w.cell? ⟨d6, o6 + 5, none⟩ = some (.int .i64 y6.r.why) := by subst hS; exact fun z => (RB1.out.below HD6.out z.ok).1
  have l16 : ∀ z : Sp S, z.w.cell? ⟨d6, o6 + 6, none⟩ = some (.bool y6.r.fnd) := by subst hS; exact fun z => (RB1.out.below HD6.out z.ok).2.1
  have l17 : ∀ z : Sp S, z.w.cell? ⟨d6, o6 + 7, none⟩ = some (.string y6.r.val) := by subst hS; exact fun z => (RB1.out.below HD6.out z.ok).2.2.1
  have l18 : ∀ z : Sp S, z.w.cell? ⟨d6, o6 + 8, none⟩ = some (.int .i64 y6.r.ver) := by subst hS; exact fun z => (RB1.out.below HD6.out z.ok).2.2.2.1
  have l19 : ∀ z : Sp S, z.w.cell? ⟨d6, o6 + 9, none⟩ = some (Value.slice y6.A y6.r.l.length y6.c) := by subst hS; exact fun z => (RB1.out.below HD6.out z.ok).2.2.2.2
  have ne : Nonempty (Sp S) := by subst hS; exact ⟨⟨_, HB0⟩⟩
  have STEP := hide (show ∀ w w', S w → Below w.heap.size w w' → S w' by subst hS; exact fun _ _ h hb => kept_trans h hb)
  have OLD := hide (show ∀ z : Sp S, Below w8.heap.size w8 z.w by subst hS; exact fun z => z.ok)
  have L9 := hide (show ∀ z : Sp S, Row z.w g9 30 (stc p5 M5) by subst hS; exact fun z => RT5'.out.below z.ok RT5'.out.lt)
  have L11 := hide (show ∀ z : Sp S, Row z.w g11 30 (stc p6 M6) by subst hS; exact fun z => RT6.out.below z.ok RT6.out.lt)
  clear HB0 hS
  repeat (first | ((with_reducible refine wpQuiet_load49 ?_ ?_ L9.out H85.out ?_); rfl; rfl; simp only [Act.put, List.setIfInBounds_toArray, List.set_cons_zero, List.set_cons_succ]) | ((with_reducible refine wpQuiet_load49 ?_ ?_ L11.out H86.out ?_); rfl; rfl; simp only [Act.put, List.setIfInBounds_toArray, List.set_cons_zero, List.set_cons_succ]) | go_big_quiet_step ((first | (go_at_call 19; with_reducible exact sp_call STEP.out _ (HSA.out _ (OLD.out _))) | (go_at_call 13; with_reducible exact sp_call STEP.out _ (HR1.out _ (OLD.out _))) | (go_at_call 13; with_reducible exact sp_call STEP.out _ (HR2.out _ (OLD.out _))) | (go_at_call 3; with_reducible exact sp_call STEP.out _ (RUN.out _)))))
  refine wpQuiet_nil ?_
  intro kk
  have OK := hide (OLD.out kk)
  generalize kk.w = wk at OK ⊢
  clear l0 l1 l2 l3 l4 l5 l6 l7 l8 l9 l10 l11 l12 l13 l14 l15 l16 l17 l18 l19 ne OLD STEP
  generalize wk = wn at OK ⊢
  go_wp2
  go_ret
  exact ⟨rfl, kept_trans KW.out (kept_trans KK5.out (kept_trans KK6.out OK.out))⟩
set_option maxRecDepth 100000 in
theorem lifted (os : Os) (started : os.Started) (H : Type) (enc : TypeId × Value → H) :
    ReturnsInHanded {} Try.checked os 10 .any (Rows.stateApartSpec.pre6 enc Try.prog Try.f10 Rows.stateApartRow.domain false) (Rows.stateApartSpec.post enc Try.prog Try.f10 false true false false) := by
  refine returnsInHanded_of_change_sized (C := Try.checked) own started (by kernel_rfl) Try.func10
    (ChangeSpec.witness6 (enc := enc) (C := Try.checked) false ⟨#[], #[.slice none 0 0, .agg #[.int .i64 0, .int .i64 0, .int .i64 0, .string ⟨#[]⟩, .string ⟨#[]⟩, .string ⟨#[]⟩, .string ⟨#[]⟩], .agg #[.int .i64 0, .int .i64 0, .int .i64 0, .string ⟨#[]⟩, .string ⟨#[]⟩, .string ⟨#[]⟩, .string ⟨#[]⟩]], []⟩ 8 (by kernel_rfl) (by kernel_rfl) (by kernel_rfl) (by kernel_rfl)) ?_
  intro W base args ds gs before hval0 hW _ hsz0 _
  have hval : ∀ (j : Nat) t v, Try.f10.params[j]? = some t → args[j]? = some v → Value.okWide Try.prog W .any base t v := hval0
  have hW' := hW
  obtain ⟨p, q, hA0, hV, rfl, _, _⟩ := hW
  have hA : DataW.TrodAll enc Try.prog W 0 (fun _ => true) true Try.f10.params.toList args.toList ds p := hA0
  have hsz : (DataW.weightsEach Try.prog (Try.f10.params.toList ++ Rows.stateApartSpec.plain.varTypes Try.prog) (ds ++ gs)).all (· ≤ reachBytes) = true := hsz0
  rw [Try.params10] at hA hval hsz
  obtain ⟨v0, vs0, d0, ds0, p0, q0, hargs, rfl, rfl, h0, r0⟩ := trodAll_cons hA
  obtain ⟨v1, vs1, d1, ds1, p1, q1, rfl, rfl, rfl, h1, r1⟩ := trodAll_cons r0
  obtain ⟨v2, vs2, d2, ds2, p2, q2, rfl, rfl, rfl, h2, r2⟩ := trodAll_cons r1
  obtain ⟨rfl, rfl, rfl⟩ := trodAll_nil r2
  obtain rfl : args = #[v0, v1, v2] := by cases args; simp_all
  obtain ⟨rfl, rfl⟩ := trodVars_none hV
  have k0 := h0
  have lt0 : ∀ x ∈ p0, x.block < W.heap.size := by obtain ⟨m, hm⟩ := k0; exact DataW.trod_lt m _ _ _ hm
  obtain ⟨A0, n0, c0, rfl⟩ := okWide_slice Try.underlying39 (hval 0 39 v0 rfl rfl)
  obtain ⟨z0, s0⟩ := cmds_in (j := 0) h0 hsz rfl rfl
  have k1 := h1
  have lt1 : ∀ x ∈ p1, x.block < W.heap.size := by obtain ⟨m, hm⟩ := k1; exact DataW.trod_lt m _ _ _ hm
  obtain ⟨x1, rfl, s1⟩ := cmd_in (j := 1) (hval 1 35 v1 rfl rfl) h1 hsz rfl rfl
  have k2 := h2
  have lt2 : ∀ x ∈ p2, x.block < W.heap.size := by obtain ⟨m, hm⟩ := k2; exact DataW.trod_lt m _ _ _ hm
  obtain ⟨x2, rfl, s2⟩ := cmd_in (j := 2) (hval 2 35 v2 rfl rfl) h2 hsz rfl rfl
  clear hA0 hval0
  refine (walk A0 n0 c0 z0 x1 x2 W s0 s1 s2).mono fun e W' ⟨he, bel⟩ => ?_
  subst he
  exact ⟨_, rfl, _, _, _, [], _, [], hW', trodAll_mk1 (shut_bool Try.underlying4 _), (trodAll_cons_mk (Below.trod laidOut (by kernel_rfl) (of_decide_eq_true (by kernel_rfl)) k0 bel lt0) (trodAll_cons_mk (Below.trod laidOut (by kernel_rfl) (of_decide_eq_true (by kernel_rfl)) k1 bel lt1) (trodAll_cons_mk (Below.trod laidOut (by kernel_rfl) (of_decide_eq_true (by kernel_rfl)) k2 bel lt2) trodAll_mk0))), rfl, bel.frame _, fun h => by cases h⟩
theorem over : Rows.stateApartRow.holds Try.pinned (OpenSpec.ofChange Rows.stateApartSpec) :=
  OpenClaim.holds_of_wide 10 Try.f10 rfl rfl rfl rfl rfl rfl rfl ⟨rfl, rfl, rfl, rfl, rfl⟩ rfl rfl rfl rfl rfl (by kernel_rfl) Try.func10 (by kernel_rfl)
    (of_decide_eq_true (by kernel_rfl)) (by unfold Func.isWrapper; first | (rw [if_pos (by decide +kernel)]; kernel_rfl) | (rw [if_neg (by decide +kernel)]; exact ⟨rfl, rfl⟩))
    (fun os started H enc _ => lifted os started H enc)
theorem proved : Rows.StateApartSaid := over
end Go.Proofs.Ytahfpncfkcfogaa.stateApart
