/- Proved: the law DiskPlays returns true. Conditions: none beyond the row's own. -/
import Derived.Test.YtllgjbkmemheoaaFrame
import Derived.Test.YtllgjbkmemheoaaCallAlike
import Derived.Deep.DeepCutAuto
namespace Go.Proofs.Ytllgjbkmemheoaa.diskPlays
open Go.ChangeShapes Go.WideShapes Go.ChangeAt Go.RowKit
theorem both_new {W w1 w2 : World} {p : Nat} {q : Int} (h1 : Dq (fun k => k < W.heap.size) w1 p (newS q)) (hb1 : Below W.heap.size W w1) (h2 : Rk (fun k => k = w1.heap.size) w2 w1.heap.size (newS q)) (hb2 : Below w1.heap.size w1 w2) :
    Lb W (fun k => k < W.heap.size) w2 p (newS q) w1.heap.size (newS q) := by
  have hs := hb1.size
  have hl := h2.lt w1.heap.size rfl
  exact ⟨kept_trans hb1 hb2, ⟨_, h2, fun k hk x => by have e : k = w1.heap.size := hk; have x2 : k < W.heap.size := x; omega, h1.more hb2 fun k hk => hk.imp id fun e => by have e2 : k = w1.heap.size := e; omega⟩, fun _ hk => hk⟩
set_option maxRecDepth 100000 in
set_option maxHeartbeats 4000000 in
theorem walk_no (q : Int) (A : Option Addr) (m c : Nat) (W : World) (hq : q < 0 ∨ 1048576 < q) :
    Calls Try.prog 4 #[.int .i64 q, .slice A m c] W fun e w' => e = .returned (.bool true) ∧ Below W.heap.size W w' := by
  have H1 := hide (new_no q W hq)
  have H2 := hide (rnew_no q W hq)
  have HR := hide (runs_any W)
  clear hq
  go_enter Try.func4, Try.ntmps4
  go_wp2_with (first
    | (go_at_call 10; (with_reducible refine H1.out.mono ?_); rintro e w1 ⟨rfl, rfl⟩)
    | (go_at_call 18; (with_reducible refine H2.out.mono ?_); rintro e w1 ⟨rfl, rfl⟩))
  go_loopw [9] (fun i wr => i = .int .i64 0 ∧ W = wr) (fun _ _ => 0)
  case atStart => exact ⟨rfl, rfl⟩
  case round =>
    obtain ⟨rfl, rfl⟩ := hrel
    rcases Nat.eq_zero_or_pos m with h0 | h0
    · subst h0
      go_wp2_with (go_at_call 3; (with_reducible refine HR.out.mono ?_); rintro e wz ⟨rfl, hbw⟩)
      go_ret
      exact ⟨rfl, hbw⟩
    · go_wp2_with (go_at_call 3; (with_reducible refine HR.out.mono ?_); rintro e wz ⟨rfl, hbw⟩)
      go_ret
      exact ⟨rfl, hbw⟩
set_option maxRecDepth 100000 in
set_option maxHeartbeats 16000000 in
theorem walk_yes (q : Int) (A : Option Addr) (m c : Nat) (it : Nat → As) (W : World) (hq : 0 ≤ q ∧ q ≤ 1048576) (h : AsksIn W A m c it) :
    Calls Try.prog 4 #[.int .i64 q, .slice A m c] W fun e w' => e = .returned (.bool true) ∧ Below W.heap.size W w' := by
  have hmx : (m : Int) ≤ 9223372036854775807 := by have := h.le; have := h.room; omega
  have HA := hide h
  have HQ := hide hq
  clear h hq
  go_enter Try.func4, Try.ntmps4
  go_wp2_with (first
    | (go_at_call 10; (with_reducible refine (new_q q W HQ.out).mono ?_); rintro e w1 ⟨p, rfl, hd, hb⟩; have L1 := hide hd; have B1 := hide hb; clear hd hb)
    | (go_at_call 18; (with_reducible refine (rnew_yes q w1 HQ.out).mono ?_); rintro e w2 ⟨rfl, hd, hb⟩; have L2 := hide (both_new L1.out B1.out hd hb); clear hd hb L1 B1))
  generalize w1.heap.size = r at *
  go_loopw [9] (fun i wr => ∃ (j : Nat) (d : DS), j ≤ m ∧ j ≤ 60 ∧ i = .int .i64 j ∧ Hid (Lb W (fun k => k < W.heap.size) wr p d r d) ∧ Hid (d.l.length ≤ j)) (fun i _ => m - (intOf i).toNat)
  case atStart => exact ⟨0, _, by omega, by omega, rfl, L2, Nat.le_refl _⟩
  case round =>
    clear L2
    obtain ⟨j, d, hj, hj60, rfl, hL, hD⟩ := hrel
    by_cases hlt : j < 60 ∧ j < m
    · obtain ⟨hlt1, hlt2⟩ := hlt
      obtain ⟨b, off, rfl, hbl, hat, hok⟩ := ask_at HA.out hL.out.low hlt2
      have q0 := hat.c0
      have q1 := hat.c1
      have q2 := hat.c2
      have q3 := hat.c3
      have q4 := hat.c4
      have q5 := hat.c5
      have HD1 := hide (show d.l.length ≤ j + 1 from Nat.le_succ_of_le hD.out)
      have hdl := hok.d.le
      have hdr := hok.d.room
      have hpl := hok.p.le
      have hpr := hok.p.room
      have HOK := hide hok
      clear hat hbl hok
      by_cases e1 : 300 < (it j).d.n
      · clear q0 q1 q2 q3 q5
        go_wp2
        go_roundw
        case rel => exact ⟨j + 1, d, by omega, by omega, by go_num, hL, HD1⟩
        case measure => simp [intOf]; omega
      by_cases e2 : 30 < (it j).p.n
      · clear q0 q1 q2 q3
        go_wp2
        go_roundw
        case rel => exact ⟨j + 1, d, by omega, by omega, by go_num, hL, HD1⟩
        case measure => simp [intOf]; omega
      have hln : d.l.length ≤ 1000000 := by have := hD.out; omega
      have LA := hide (show (askS d (it j)).l.length ≤ j + 1 from Nat.le_trans (len_ask d (it j)) (Nat.succ_le_succ hD.out))
      have HLN := hide (show (askS d (it j)).l.length ≤ 1000000 by have := LA.out; omega)
      have HC := hide (call_any hL.out HOK.out (by omega) (by omega) hln)
      clear hD HD1 hL HOK
      go_wp2_with (first
        | (go_at_call 19; (with_reducible refine HC.out.mono ?_); rintro e w7 ⟨rfl, hL7⟩; have HA7 := hide (alike_any hL7 HLN.out); clear hL7 HC)
        | (go_at_call 20; (with_reducible refine HA7.out.mono ?_); rintro e w8 ⟨rfl, hL8⟩; have L8 := hide hL8; clear hL8 HA7))
      go_roundw
      case rel => exact ⟨j + 1, _, by omega, by omega, by go_num, L8, LA⟩
      case measure => simp [intOf]; omega
    · clear HA
      have HRR := hide (run_run hL.out.one)
      have hcase : ¬ j < m ∨ (j < m ∧ 60 ≤ j) := by omega
      clear hlt hD hL
      rcases hcase with hjm | ⟨hjm, hjk⟩
      all_goals
        go_wp2_with (go_at_call 3; (with_reducible refine HRR.out.mono ?_); rintro e wz ⟨rfl, hbw⟩)
        go_ret
        exact ⟨rfl, hbw⟩
theorem walk (q : Int) (A : Option Addr) (m c : Nat) (it : Nat → As) (W : World) (_hq : -9223372036854775808 ≤ q ∧ q ≤ 9223372036854775807) (h : AsksIn W A m c it) :
    Calls Try.prog 4 #[.int .i64 q, .slice A m c] W fun e w' => e = .returned (.bool true) ∧ Below W.heap.size W w' := by
  by_cases hq : 0 ≤ q ∧ q ≤ 1048576
  · exact walk_yes q A m c it W hq h
  · exact walk_no q A m c W (by omega)
set_option maxRecDepth 100000 in
theorem lifted (os : Os) (started : os.Started) (H : Type) (enc : TypeId × Value → H) :
    ReturnsInHanded {} Try.checked os 4 .any (Rows.diskPlaysSpec.pre6 enc Try.prog Try.f4 Rows.diskPlaysRow.domain false) (Rows.diskPlaysSpec.post enc Try.prog Try.f4 false true false false) := by
  refine returnsInHanded_of_change_sized (C := Try.checked) own started (by kernel_rfl) Try.func4
    (ChangeSpec.witness6 (enc := enc) (C := Try.checked) false ⟨#[], #[.int .i64 0, .slice none 0 0], []⟩ 8 (by kernel_rfl) (by kernel_rfl) (by kernel_rfl) (by kernel_rfl)) ?_
  intro W base args ds gs before hval0 hW _ hsz0 _
  have hval : ∀ (j : Nat) t v, Try.f4.params[j]? = some t → args[j]? = some v → Value.okWide Try.prog W .any base t v := hval0
  have hW' := hW
  obtain ⟨p, q, hA0, hV, rfl, _, _⟩ := hW
  have hA : DataW.TrodAll enc Try.prog W 0 (fun _ => true) true Try.f4.params.toList args.toList ds p := hA0
  have hsz : (DataW.weightsEach Try.prog (Try.f4.params.toList ++ Rows.diskPlaysSpec.plain.varTypes Try.prog) (ds ++ gs)).all (· ≤ reachBytes) = true := hsz0
  rw [Try.params4] at hA hval hsz
  obtain ⟨v0, vs0, d0, ds0, p0, q0, hargs, rfl, rfl, h0, r0⟩ := trodAll_cons hA
  obtain ⟨v1, vs1, d1, ds1, p1, q1, rfl, rfl, rfl, h1, r1⟩ := trodAll_cons r0
  obtain ⟨rfl, rfl, rfl⟩ := trodAll_nil r1
  obtain rfl : args = #[v0, v1] := by cases args; simp_all
  obtain ⟨rfl, rfl⟩ := trodVars_none hV
  obtain ⟨a0, rfl, rfl, rfl, w0⟩ := open_int Try.underlying3 (hval 0 3 v0 rfl rfl) h0
  have k1 := h1
  have lt1 : ∀ x ∈ p1, x.block < W.heap.size := by obtain ⟨m, hm⟩ := k1; exact DataW.trod_lt m _ _ _ hm
  obtain ⟨A1, n1, c1, rfl⟩ := okWide_slice Try.underlying35 (hval 1 35 v1 rfl rfl)
  obtain ⟨z1, s1⟩ := dasks_in (j := 1) h1 hsz rfl rfl
  clear hA0 hval0
  refine (walk a0 A1 n1 c1 z1 W (bounds_i64 w0) s1).mono fun e W' ⟨he, bel⟩ => ?_
  subst he
  exact ⟨_, rfl, _, _, _, [], _, [], hW', trodAll_mk1 (shut_bool Try.underlying4 _), (trodAll_cons_mk (shut_int Try.underlying3 w0) (trodAll_cons_mk (Below.trod laidOut (by kernel_rfl) (of_decide_eq_true (by kernel_rfl)) k1 bel lt1) trodAll_mk0)), rfl, bel.frame _, fun h => by cases h⟩
theorem over : Rows.diskPlaysRow.holds Try.pinned (OpenSpec.ofChange Rows.diskPlaysSpec) :=
  OpenClaim.holds_of_wide 4 Try.f4 rfl rfl rfl rfl rfl rfl rfl ⟨rfl, rfl, rfl, rfl, rfl⟩ rfl rfl rfl rfl rfl (by kernel_rfl) Try.func4 (by kernel_rfl)
    (of_decide_eq_true (by kernel_rfl)) (by unfold Func.isWrapper; first | (rw [if_pos (by decide +kernel)]; kernel_rfl) | (rw [if_neg (by decide +kernel)]; exact ⟨rfl, rfl⟩))
    (fun os started H enc _ => lifted os started H enc)
theorem proved : Rows.DiskPlaysSaid := over
end Go.Proofs.Ytllgjbkmemheoaa.diskPlays
