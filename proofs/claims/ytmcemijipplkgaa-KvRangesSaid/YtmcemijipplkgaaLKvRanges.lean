/- Proved: the law KvRanges returns true. Conditions: none beyond the row's own. -/
import Derived.Test.YtmcemijipplkgaaFrame
import Derived.Test.YtmcemijipplkgaaLw
import Derived.Test.YtmcemijipplkgaaAsk
import Derived.Test.YtmcemijipplkgaaSp
import Derived.Deep.DeepCutAuto
import Derived.Deep.RegionHeld3
namespace Go.Proofs.Ytmcemijipplkgaa.kvRanges
open Go.ChangeShapes Go.WideShapes Go.ChangeAt Go.RowKit
theorem inP_at {l : List Pr} {k : Nat} {p : Pr} {lo hi : ByteArray} (h : l[k]? = some p) (hx : hasB lo hi p.k = true) : (inP l lo hi)[(inP (l.take k) lo hi).length]? = some p := by
  have hlt : k < l.length := by
    rcases Nat.lt_or_ge k l.length with h1 | h1
    · exact h1
    · rw [List.getElem?_eq_none h1] at h; cases h
  have e : inP (l.drop k) lo hi = p :: inP (l.drop (k + 1)) lo hi := by
    rw [List.drop_eq_getElem_cons hlt]
    rw [List.getElem?_eq_getElem hlt] at h
    injection h with h
    rw [h]
    unfold inP
    rw [List.filter_cons, if_pos hx]
  rw [inP_cut l k, List.getElem?_append_right (Nat.le_refl _), Nat.sub_self, e]
  rfl
theorem rng_len (l : List Pr) (lo hi : ByteArray) : (rngP l lo hi).length = min 8 (inP l lo hi).length := by unfold rngP; rw [List.length_take]
theorem rng_at {l : List Pr} {k : Nat} {p : Pr} {lo hi : ByteArray} (h : l[k]? = some p) (hx : hasB lo hi p.k = true) (hq : (inP (l.take k) lo hi).length < (rngP l lo hi).length) : (rngP l lo hi)[(inP (l.take k) lo hi).length]? = some p := by
  have h8 := rng_len l lo hi
  have := inP_at h hx
  unfold rngP
  rw [List.getElem?_take, if_pos (by omega)]
  exact this
theorem rng_more {l : List Pr} {k : Nat} {p : Pr} {lo hi : ByteArray} (h : l[k]? = some p) (hx : hasB lo hi p.k = true) (hq : (rngP l lo hi).length ≤ (inP (l.take k) lo hi).length) : moreB l lo hi = true := by
  have h8 := rng_len l lo hi
  have h1 := inP_at h hx
  have h2 : (inP (l.take k) lo hi).length < (inP l lo hi).length := by
    rcases Nat.lt_or_ge (inP (l.take k) lo hi).length (inP l lo hi).length with h3 | h3
    · exact h3
    · rw [List.getElem?_eq_none h3] at h1; cases h1
  unfold moreB
  exact decide_eq_true (by omega)
set_option maxRecDepth 100000 in
set_option maxHeartbeats 16000000 in
theorem walk (A : Option Addr) (n c : Nat) (l : List Ka) (lo hi : ByteArray) (W : World) (h : KasIn W A n c l) :
    Calls Try.prog 7 #[.slice A n c, .agg #[.string lo, .string hi]] W fun e w' => e = .returned (.bool true) ∧ Below W.heap.size W w' := by
  have RUN := hide (fun w => runs_any w)
  have TW := hide (Two.new W lo hi 35)
  have K0 := hide (kept_alloc (kept_refl W) (.cells #[.string lo, .string hi] 35))
  have hn := h.len
  have hnc := h.le
  have hcr := h.room
  subst hn
  have HA := hide (h.lies.below K0.out)
  clear h
  go_enter Try.func7, Try.ntmps7
  go_upto_region 1 with (fail)
  generalize W.alloc (.cells #[.string lo, .string hi] 35) = w1 at TW K0 HA ⊢
  generalize W.heap.size = g0 at TW ⊢
  go_wp2
  go_loopw [5, 6] (fun v i wr => ∃ (k : Nat) (vv : Value) (M : List Pr), k ≤ l.length ∧ k ≤ 40 ∧ i = .int .i64 k ∧ vv = v ∧ Hid (Mine w1.heap.size wr vv M) ∧ Hid (Up M) ∧ Hid (M.length ≤ k) ∧ Hid (Below w1.heap.size w1 wr)) (fun _ i _ => l.length - (intOf i).toNat)
  case atStart => exact ⟨0, _, [], by omega, by omega, rfl, rfl, Mine.nil_ _ _, List.Pairwise.nil, Nat.le_refl _, Below.refl _ _⟩
  case round =>
    obtain ⟨k, vv, M, hk, hk40, rfl, rfl, O, U, Q, B⟩ := hrel
    by_cases hlt : k < l.length ∧ k < 40
    · obtain ⟨hlt, hlt40⟩ := hlt
      have hlt40' : decide ((k : Int) < 40) = true := decide_eq_true (by omega)
      obtain ⟨x, hx⟩ : ∃ x, l[k]? = some x := ⟨_, List.getElem?_eq_getElem hlt⟩
      obtain ⟨b, o, rfl, hbs, c0, c1, c2, -, -⟩ := Els.ka (HA.out.below B.out) hx
      have hnil : (x.k.toList == []) = nilB x.k := by unfold nilB; cases x.k.toList <;> rfl
      clear hx
      go_upto_region 5 with (fail)
      go_cut [46] from 13 to 64 (fun s46 wx => ∃ t : Bool, s46 = .bool t ∧ wr = wx)
      case first =>
        go_wp2_with fail
        all_goals go_meet
        all_goals exact ⟨_, rfl, rfl⟩
      case rest =>
        obtain ⟨t, rfl, rfl⟩ := hcut
        clear hnil
        cases t
        · go_wp2
          go_roundw
          case rel => exact ⟨k + 1, _, M, by omega, by omega, by go_num, rfl, O, U, hide (Nat.le_succ_of_le Q.out), B⟩
          case measure => simp [intOf]; omega
        · have CP := hide (fun w h => put_any vv M x.k x.v w h (by have := Q.out; omega))
          go_upto_region 6 with (fail)
          have PD := hide (show Pin wr.drew vv M from O.out.pin)
          have HC := hide (show b < wr.heap.size ∧ wr.cell? ⟨b, o + k * 5 + 1, none⟩ = some (.string x.k) ∧ wr.cell? ⟨b, o + k * 5 + 2, none⟩ = some (.string x.v) from ⟨hbs, c1, c2⟩)
          obtain ⟨E, hE⟩ : ∃ E, putE M x.k = E := ⟨_, rfl⟩
          rw [hE] at CP
          have HE := hide hE
          clear hE
          go_region_held3 (fun w' => w'.cell? ⟨b, o + k * 5 + 1, none⟩ = some (.string x.k) ∧ w'.cell? ⟨b, o + k * 5 + 2, none⟩ = some (.string x.v)) (go_keep)
            (first | (go_at_call 9; (with_reducible refine (CP.out _ PD.out).mono ?_); rintro e w3 ⟨v3, rfl, ho3, hb3⟩; have q1 := (hb3.cell (p := ⟨b, o + k * 5 + 1, none⟩) HC.out.1).trans HC.out.2.1; have q2 := (hb3.cell (p := ⟨b, o + k * 5 + 2, none⟩) HC.out.1).trans HC.out.2.2; have HO3 := hide ho3; have HB3 := hide hb3; clear ho3 hb3))
          have B3 := hide (kept_trans B.out.drew HB3.out)
          cases hf : fullB M x.k
          · have e7 : putE M x.k = 0 := by unfold putE; rw [hf]; simp
            obtain rfl : E = 0 := HE.out.symm.trans e7
            have O4 := hide (show Mine w1.heap.size w3 v3 (putP M x.k x.v) by have := HO3.out.mono B.out.drew.size; rw [put_room hf] at this; exact this)
            have Q4 := hide (show (putP M x.k x.v).length ≤ k + 1 by have h1 := put_len_le M x.k x.v; rw [put_room hf] at h1; exact Nat.le_trans h1 (Nat.succ_le_succ Q.out))
            have U4 := hide (U.out.put x.k x.v)
            clear HE HB3 HO3 HC PD CP e7 hf O Q U
            go_wp2
            go_roundw
            case rel => exact ⟨k + 1, _, _, by omega, by omega, by go_num, rfl, O4, U4, Q4, B3⟩
            case measure => simp [intOf]; omega
          · have e7 : putE M x.k = 7 := by unfold putE; rw [hf]; simp
            obtain rfl : E = 7 := HE.out.symm.trans e7
            have O4 := hide (Mine.below (w := wr.drew) O.out HB3.out)
            clear HE HB3 HO3 HC PD CP e7 hf O
            go_wp2
            go_roundw
            case rel => exact ⟨k + 1, _, _, by omega, by omega, by go_num, rfl, O4, U, hide (Nat.le_succ_of_le Q.out), B3⟩
            case measure => simp [intOf]; omega
    · go_upto_region 3 with (fail)
      go_cut [20] from 13 to 64 (fun s20 wx => s20 = .bool false ∧ wr = wx)
      case first =>
        by_cases hk2 : k < l.length
        · have h40 : decide ((k : Int) < 40) = false := decide_eq_false (by omega)
          go_wp2_with fail
          go_meet
          exact ⟨rfl, rfl⟩
        · go_wp2_with fail
          go_meet
          exact ⟨rfl, rfl⟩
      case rest =>
        obtain ⟨rfl, rfl⟩ := hcut
        have TW2 := TW.out.kept B.out
        obtain ⟨s0, s1⟩ : _ ∧ _ := ⟨TW2.c0, TW2.c1⟩
        have CR := hide (range_any vv M lo hi wr O.out.pin (by have := Q.out; omega))
        go_upto_region 10 with (go_at_call 12; (with_reducible refine CR.out.mono ?_); rintro e w5 ⟨v5, rfl, ho5, hb5⟩; have R5 := hide ho5; have O5 := hide (O.out.below hb5); have T5 := hide (TW2.kept hb5); have B5 := hide (kept_trans B.out hb5); clear ho5 hb5)
        clear TW2 s0 s1 CR O B
        obtain ⟨Am, cm, rfl, -, hcm, hcm2, hpm⟩ := O5.out.pin
        obtain ⟨r, hr⟩ : ∃ r, (rngP M lo hi).length = r := ⟨_, rfl⟩
        obtain ⟨Ar, cr, rfl, -, hcr2, hcr3, hpr⟩ := R5.out.pin
        rw [hr] at hcr2 ⊢
        have HR := hide hr
        have PM := hide hpm
        have PR := hide hpr
        obtain ⟨u, hu⟩ : ∃ u, moreB M lo hi = u := ⟨_, rfl⟩
        rw [hu]
        have HU := hide hu
        obtain ⟨N, hN⟩ : ∃ N, M.length = N := ⟨_, rfl⟩
        rw [hN] at hcm ⊢
        have HN := hide hN
        clear hpm hpr hr hu hN R5 O5
        go_wp2
        have hN40 : N ≤ 40 := by rw [← HN.out]; exact Nat.le_trans Q.out hk40
        go_loopw [11, 12] (fun s i wr => ∃ j q : Nat, j ≤ N ∧ i = .int .i64 j ∧ s = .int .i64 q ∧ Hid ((inP (M.take j) lo hi).length = q) ∧ q ≤ j ∧ Hid (Below w5.heap.size w5 wr)) (fun _ i _ => N - (intOf i).toNat)
        case atStart => exact ⟨0, 0, by omega, rfl, rfl, rfl, by omega, Below.refl _ _⟩
        case round =>
          obtain ⟨j, q, hj, rfl, rfl, HQ, hqj, B6⟩ := hrel
          by_cases hlt : j < N
          · obtain ⟨p, hp⟩ : ∃ p, M[j]? = some p := ⟨_, List.getElem?_eq_getElem (by rw [HN.out]; exact hlt)⟩
            obtain ⟨bm, om, rfl, hbm, c0, c1, c2⟩ := (PM.out.below B6.out).at_ hp
            have HP := hide hp
            clear hp
            have T6 := T5.out.kept B6.out
            obtain ⟨s0, s1⟩ : _ ∧ _ := ⟨T6.c0, T6.c1⟩
            have lg := T6.lt
            clear T6
            have HH := hide (fun w => has_any lo hi p.k w)
            have hjN : (j : Int) < (N : Int) := by omega
            go_upto_region 14 with (fail)
            have st : Below wr.heap.size wr wr := kept_refl wr
            cases ht : hasB lo hi p.k
            · rw [ht] at HH
              have N4 : Hid ((inP (M.take (j + 1)) lo hi).length = q) := hide (by rw [inP_no HP.out ht]; exact HQ.out)
              clear ht
              refine wp_region_sp (fun w' => Below wr.heap.size wr w') (by kernel_rfl) (by kernel_rfl) st.drew ?_
              generalize hS : (fun w' => Below wr.heap.size wr w') = S
              have l0 : ∀ s : Sp S, s.w.cell? ⟨g0, 0, none⟩ = some (.string lo) := by subst hS; exact fun s => (s.ok.cell (p := ⟨g0, 0, none⟩) lg).trans s0
              have l1 : ∀ s : Sp S, s.w.cell? ⟨g0, 1, none⟩ = some (.string hi) := by subst hS; exact fun s => (s.ok.cell (p := ⟨g0, 1, none⟩) lg).trans s1
              have l2 : ∀ s : Sp S, s.w.cell? ⟨bm, om + j * 3, none⟩ = some (.string p.k) := by subst hS; exact fun s => (s.ok.cell (p := ⟨bm, om + j * 3, none⟩) hbm).trans c0
              have ne : Nonempty (Sp S) := by subst hS; exact ⟨⟨_, st⟩⟩
              have STEP := hide (show ∀ w w', S w → Below w.heap.size w w' → S w' by subst hS; exact fun _ _ h hb => kept_trans h hb)
              have OLD := hide (show ∀ s : Sp S, Below wr.heap.size wr s.w by subst hS; exact fun s => s.ok)
              clear s0 s1 c0 c1 c2 hbm lg
              clear st hS
              repeat (go_big_quiet_step ((first | (go_at_call 23; with_reducible exact sp_call STEP.out _ (HH.out _)))))
              refine wpQuiet_nil ?_
              intro kk
              have OK := hide (OLD.out kk)
              generalize kk.w = wk at OK ⊢
              clear l0 l1 l2 ne OLD STEP
              have B7 := hide (kept_trans B6.out OK.out)
              go_wp2
              go_roundw
              case rel => exact ⟨j + 1, q, by omega, by go_num, rfl, N4, by omega, B7⟩
              case measure => simp [intOf]; omega
            · rw [ht] at HH
              have N4 : Hid ((inP (M.take (j + 1)) lo hi).length = q + 1) := hide (by rw [inP_yes HP.out ht, List.length_append, HQ.out]; rfl)
              have HM := hide (⟨c0, c1, c2, hbm⟩ : wr.cell? ⟨bm, om + j * 3, none⟩ = some (.string p.k) ∧ wr.cell? ⟨bm, om + j * 3 + 1, none⟩ = some (.string p.v) ∧ wr.cell? ⟨bm, om + j * 3 + 2, none⟩ = some (.int .i64 p.n) ∧ bm < wr.heap.size)
              by_cases hqr : q < r
              · have hra := rng_at HP.out ht (by rw [HQ.out, HR.out]; exact hqr)
                rw [HQ.out] at hra
                have HRA := hide hra
                clear ht hra
                refine wp_region_sp (fun w' => Below wr.heap.size wr w') (by kernel_rfl) (by kernel_rfl) st.drew ?_
                generalize hS : (fun w' => Below wr.heap.size wr w') = S
                have l0 : ∀ s : Sp S, s.w.cell? ⟨g0, 0, none⟩ = some (.string lo) := by subst hS; exact fun s => (s.ok.cell (p := ⟨g0, 0, none⟩) lg).trans s0
                have l1 : ∀ s : Sp S, s.w.cell? ⟨g0, 1, none⟩ = some (.string hi) := by subst hS; exact fun s => (s.ok.cell (p := ⟨g0, 1, none⟩) lg).trans s1
                have l2 : ∀ s : Sp S, s.w.cell? ⟨bm, om + j * 3, none⟩ = some (.string p.k) := by subst hS; exact fun s => (s.ok.cell (p := ⟨bm, om + j * 3, none⟩) hbm).trans c0
                have ne : Nonempty (Sp S) := by subst hS; exact ⟨⟨_, st⟩⟩
                have STEP := hide (show ∀ w w', S w → Below w.heap.size w w' → S w' by subst hS; exact fun _ _ h hb => kept_trans h hb)
                have OLD := hide (show ∀ s : Sp S, Below wr.heap.size wr s.w by subst hS; exact fun s => s.ok)
                clear s0 s1 c0 c1 c2 hbm lg
                clear st hS
                repeat (go_big_quiet_step ((first | (go_at_call 23; with_reducible exact sp_call STEP.out _ (HH.out _)))))
                refine wpQuiet_nil ?_
                intro kk
                have OK := hide (OLD.out kk)
                generalize kk.w = wk at OK ⊢
                clear l0 l1 l2 ne OLD STEP
                have B7 := hide (kept_trans B6.out OK.out)
                obtain ⟨br, or_, rfl, hbr, d0, d1, d2⟩ := (PR.out.below B7.out).at_ HRA.out
                obtain ⟨e0, e1, e2, e3⟩ := HM.out
                replace e0 := (OK.out.cell (p := ⟨bm, om + j * 3, none⟩) e3).trans e0
                replace e1 := (OK.out.cell (p := ⟨bm, om + j * 3 + 1, none⟩) e3).trans e1
                replace e2 := (OK.out.cell (p := ⟨bm, om + j * 3 + 2, none⟩) e3).trans e2
                have hneq : ∀ w, (binOp .neq 29 (.agg #[.string p.k, .string p.v, .int .i64 p.n]) (.agg #[.string p.k, .string p.v, .int .i64 p.n])).run Try.prog w = .ok (.bool false) w := fun w => by rw [neq_pair]; simp
                have t1 : decide ((q : Int) < (r : Int)) = true := decide_eq_true (by omega)
                have t2 : decide (q < r) = true := decide_eq_true hqr
                have t3 : decide ((r : Int) ≤ (q : Int)) = false := decide_eq_false (by omega)
                have t4 : decide (r ≤ q) = false := decide_eq_false (by omega)
                clear HRA HM HH B6
                go_wp2
                go_quiet (fail)
                go_wp2
                go_roundw
                case rel => exact ⟨j + 1, q + 1, by omega, by go_num, by go_num, N4, by omega, kept_drewN B7.out _⟩
                case measure => simp [intOf]; omega
              · have hmo := rng_more HP.out ht (by rw [HQ.out, HR.out]; omega)
                rw [HU.out] at hmo
                subst hmo
                clear ht
                refine wp_region_sp (fun w' => Below wr.heap.size wr w') (by kernel_rfl) (by kernel_rfl) st.drew ?_
                generalize hS : (fun w' => Below wr.heap.size wr w') = S
                have l0 : ∀ s : Sp S, s.w.cell? ⟨g0, 0, none⟩ = some (.string lo) := by subst hS; exact fun s => (s.ok.cell (p := ⟨g0, 0, none⟩) lg).trans s0
                have l1 : ∀ s : Sp S, s.w.cell? ⟨g0, 1, none⟩ = some (.string hi) := by subst hS; exact fun s => (s.ok.cell (p := ⟨g0, 1, none⟩) lg).trans s1
                have l2 : ∀ s : Sp S, s.w.cell? ⟨bm, om + j * 3, none⟩ = some (.string p.k) := by subst hS; exact fun s => (s.ok.cell (p := ⟨bm, om + j * 3, none⟩) hbm).trans c0
                have ne : Nonempty (Sp S) := by subst hS; exact ⟨⟨_, st⟩⟩
                have STEP := hide (show ∀ w w', S w → Below w.heap.size w w' → S w' by subst hS; exact fun _ _ h hb => kept_trans h hb)
                have OLD := hide (show ∀ s : Sp S, Below wr.heap.size wr s.w by subst hS; exact fun s => s.ok)
                clear s0 s1 c0 c1 c2 hbm lg
                clear st hS
                repeat (go_big_quiet_step ((first | (go_at_call 23; with_reducible exact sp_call STEP.out _ (HH.out _)))))
                refine wpQuiet_nil ?_
                intro kk
                have OK := hide (OLD.out kk)
                generalize kk.w = wk at OK ⊢
                clear l0 l1 l2 ne OLD STEP
                have B7 := hide (kept_trans B6.out OK.out)
                have t1 : decide ((q : Int) < (r : Int)) = false := decide_eq_false (by omega)
                have t2 : decide (q < r) = false := decide_eq_false hqr
                have t3 : decide ((r : Int) ≤ (q : Int)) = true := decide_eq_true (by omega)
                have t4 : decide (r ≤ q) = true := decide_eq_true (by omega)
                clear HM HH B6
                go_wp2
                go_quiet (fail)
                go_wp2
                go_roundw
                case rel => exact ⟨j + 1, q + 1, by omega, by go_num, by go_num, N4, by omega, kept_drewN B7.out _⟩
                case measure => simp [intOf]; omega
          · obtain rfl : j = N := by omega
            have hT : (inP M lo hi).length = q := by have := HQ.out; rw [List.take_of_length_le (by rw [HN.out]; exact Nat.le_refl _)] at this; exact this
            have hrl := rng_len M lo hi
            rw [HR.out, hT] at hrl
            have hmo : moreB M lo hi = decide (8 < q) := by unfold moreB; rw [hT]
            rw [HU.out] at hmo
            have r8 : decide ((r : Int) ≤ 8) = true := decide_eq_true (by omega)
            have r8' : decide (r ≤ 8) = true := decide_eq_true (by omega)
            have t3 : decide ((r : Int) ≤ (q : Int)) = true := decide_eq_true (by omega)
            have t4 : decide (r ≤ q) = true := decide_eq_true (by omega)
            have BW := hide (kept_trans K0.out (kept_trans B5.out B6.out))
            cases u
            · have h8 : ¬ 8 < q := by simpa using hmo.symm
              have t5 : decide ((r : Int) < (q : Int)) = false := decide_eq_false (by omega)
              have t6 : decide (r < q) = false := decide_eq_false (by omega)
              clear hmo hrl hT
              go_wp2_with (go_at_call 3; (with_reducible refine (RUN.out _).mono ?_); rintro e w9 ⟨rfl, hb9⟩)
              go_ret
              exact ⟨rfl, kept_trans BW.out hb9⟩
            · have h8 : 8 < q := by simpa using hmo.symm
              have t5 : decide ((r : Int) < (q : Int)) = true := decide_eq_true (by omega)
              have t6 : decide (r < q) = true := decide_eq_true (by omega)
              obtain rfl : r = 8 := by omega
              clear hmo hrl hT
              go_wp2_with (go_at_call 3; (with_reducible refine (RUN.out _).mono ?_); rintro e w9 ⟨rfl, hb9⟩)
              go_ret
              exact ⟨rfl, kept_trans BW.out hb9⟩
set_option maxRecDepth 100000 in
theorem lifted (os : Os) (started : os.Started) (H : Type) (enc : TypeId × Value → H) :
    ReturnsInHanded {} Try.checked os 7 .any (Rows.kvRangesSpec.pre6 enc Try.prog Try.f7 Rows.kvRangesRow.domain false) (Rows.kvRangesSpec.post enc Try.prog Try.f7 false true false false) := by
  refine returnsInHanded_of_change_sized (C := Try.checked) own started (by kernel_rfl) Try.func7
    (ChangeSpec.witness6 (enc := enc) (C := Try.checked) false ⟨#[], #[.slice none 0 0, .agg #[.string ⟨#[]⟩, .string ⟨#[]⟩]], []⟩ 8 (by kernel_rfl) (by kernel_rfl) (by kernel_rfl) (by kernel_rfl)) ?_
  intro W base args ds gs before hval0 hW _ hsz0 _
  have hval : ∀ (j : Nat) t v, Try.f7.params[j]? = some t → args[j]? = some v → Value.okWide Try.prog W .any base t v := hval0
  have hW' := hW
  obtain ⟨p, q, hA0, hV, rfl, _, _⟩ := hW
  have hA : DataW.TrodAll enc Try.prog W 0 (fun _ => true) true Try.f7.params.toList args.toList ds p := hA0
  have hsz : (DataW.weightsEach Try.prog (Try.f7.params.toList ++ Rows.kvRangesSpec.plain.varTypes Try.prog) (ds ++ gs)).all (· ≤ reachBytes) = true := hsz0
  rw [Try.params7] at hA hval hsz
  obtain ⟨v0, vs0, d0, ds0, p0, q0, hargs, rfl, rfl, h0, r0⟩ := trodAll_cons hA
  obtain ⟨v1, vs1, d1, ds1, p1, q1, rfl, rfl, rfl, h1, r1⟩ := trodAll_cons r0
  obtain ⟨rfl, rfl, rfl⟩ := trodAll_nil r1
  obtain rfl : args = #[v0, v1] := by cases args; simp_all
  obtain ⟨rfl, rfl⟩ := trodVars_none hV
  have k0 := h0
  have lt0 : ∀ x ∈ p0, x.block < W.heap.size := by obtain ⟨m, hm⟩ := k0; exact DataW.trod_lt m _ _ _ hm
  obtain ⟨A0, n0, c0, rfl⟩ := okWide_slice Try.underlying45 (hval 0 45 v0 rfl rfl)
  obtain ⟨z0, s0⟩ := kasks_in (j := 0) h0 hsz rfl rfl
  have k1 := h1
  have lt1 : ∀ x ∈ p1, x.block < W.heap.size := by obtain ⟨m, hm⟩ := k1; exact DataW.trod_lt m _ _ _ hm
  obtain ⟨x1, y1, rfl⟩ := span_in (hval 1 35 v1 rfl rfl) h1
  clear hA0 hval0
  refine (walk A0 n0 c0 z0 x1 y1 W s0).mono fun e W' ⟨he, bel⟩ => ?_
  subst he
  exact ⟨_, rfl, _, _, _, [], _, [], hW', trodAll_mk1 (shut_bool Try.underlying4 _), (trodAll_cons_mk (Below.trod laidOut (by kernel_rfl) (of_decide_eq_true (by kernel_rfl)) k0 bel lt0) (trodAll_cons_mk (Below.trod laidOut (by kernel_rfl) (of_decide_eq_true (by kernel_rfl)) k1 bel lt1) trodAll_mk0)), rfl, bel.frame _, fun h => by cases h⟩
theorem over : Rows.kvRangesRow.holds Try.pinned (OpenSpec.ofChange Rows.kvRangesSpec) :=
  OpenClaim.holds_of_wide 7 Try.f7 rfl rfl rfl rfl rfl rfl rfl ⟨rfl, rfl, rfl, rfl, rfl⟩ rfl rfl rfl rfl rfl (by kernel_rfl) Try.func7 (by kernel_rfl)
    (of_decide_eq_true (by kernel_rfl)) (by unfold Func.isWrapper; first | (rw [if_pos (by decide +kernel)]; kernel_rfl) | (rw [if_neg (by decide +kernel)]; exact ⟨rfl, rfl⟩))
    (fun os started H enc _ => lifted os started H enc)
theorem proved : Rows.KvRangesSaid := over
end Go.Proofs.Ytmcemijipplkgaa.kvRanges
