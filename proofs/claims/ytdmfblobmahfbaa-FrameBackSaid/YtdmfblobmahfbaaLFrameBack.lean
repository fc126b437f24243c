/- Proved: the law FrameBack returns true. Conditions: none beyond the row's own. -/
import Derived.Test.YtdmfblobmahfbaaFrame
import Derived.Test.YtdmfblobmahfbaaRuns
import Derived.Test.YtdmfblobmahfbaaWithin
import Derived.Test.YtdmfblobmahfbaaLis
import Derived.Test.YtdmfblobmahfbaaHld
import Derived.Test.YtdmfblobmahfbaaRnd
import Derived.Deep.DeepCutAuto
import Derived.RegionTactic
namespace Go.Proofs.Ytdmfblobmahfbaa.frameBack
open Go.ChangeShapes Go.WideShapes Go.ChangeAt Go.RowKit
theorem within_to (n : Int) (hi : Nat) (l : hi ≤ 4611686018427387904) : ∃ K : Nat, K ≤ hi ∧ ∀ w : World, Calls Try.prog 18 #[.int .i64 n, .int .i64 0, .int .i64 (hi : Int)] w fun e w' => e = .returned (.int .i64 (K : Int)) ∧ w = w' := by
  have hb := withinI_bounds n 0 hi (by omega)
  refine ⟨(withinI n 0 hi).toNat, by omega, fun w => ?_⟩
  rw [Int.toNat_of_nonneg (by omega)]
  exact within_any n 0 hi w (by omega) (by omega) (by omega)
set_option maxHeartbeats 2000000 in
theorem walk (A : Option Addr) (n c : Nat) (it : Nat → Sb) (a1 : Int) (W : World) (s : PartsIn W A n c it) (_ : -9223372036854775808 ≤ a1 ∧ a1 ≤ 9223372036854775807) :
    Calls Try.prog 5 #[.slice A n c, .int .i64 a1] W fun e w' => e = .returned (.bool true) ∧ Below W.heap.size W w' := by
  obtain ⟨i3, hi3, hj0, hj1, hj2⟩ := info_parts Try.info3
  obtain ⟨i22, hi22, hk0, hk1, hk2⟩ := info_parts Try.info22
  have lnc := s.le
  have lc := s.room
  have S := hide s
  clear s
  go_enter Try.func5, Try.ntmps5
  go_wp2
  go_loopw [5, 6, 7, 8] (fun bv ev kv iv wr => ∃ (i : Nat) (F : List (List Int)) (vs : List Value) (Ab : Option Addr) (cb : Nat), i ≤ 20 ∧ i ≤ n ∧ iv = .int .i64 i ∧ F.length ≤ i ∧ bv = .slice Ab (enc F).length cb ∧ Hid (Held W wr (.slice Ab (enc F).length cb) ev kv F vs)) (fun _ _ _ iv _ => 20 - (intOf iv).toNat)
  case atStart => exact ⟨0, [], [], none, 0, by omega, by omega, rfl, Nat.le_refl _, rfl, Held.start W⟩
  case round =>
    obtain ⟨i, F, vs, Ab, cb, hi20, hin, rfl, hFi, rfl, hh⟩ := hrel
    have hEle := enc_le hh.out.right
    by_cases hlt : i < n ∧ i < 20
    · obtain ⟨hlt1, hlt2⟩ := hlt
      obtain ⟨b, off, rfl, hbl, hcell, hs⟩ := S.out.at_ i hlt1
      generalize it i = P at hcell hs
      obtain ⟨pA, pn, pc, ps⟩ := P
      simp only at hcell hs
      have hcellW := hcell
      have hc1 := (hh.out.old.cell (p := ⟨b, off + i, none⟩) hbl).trans hcell
      have hpl := hs.len
      have hpr := hs.room
      have hple := hs.le
      have hput := fput_any Ab (enc F).length cb (enc F) pA pn pc ps wr rfl (Lies.of_own hh.out.b) (own_nil hh.out.b) (by omega) hs.len (hs.lies.below hh.out.old) hs.nil hs.oct
      by_cases hM : May pn
      · have e1 : putF (enc F) ps = enc (F ++ [ps]) := by unfold putF; rw [hpl, if_pos hM, enc_append, enc_one]
        obtain ⟨M2, hM2⟩ : ∃ M2, (enc (F ++ [ps])).length = M2 := ⟨_, rfl⟩
        have hM3 : M2 = (enc F).length + (pn + 6) := by rw [← hM2, enc_append, enc_one, List.length_append, length_frm, hpl]
        rw [e1, hM2] at hput
        have hput := hide hput
        have l1 := hM.2
        have t1 : decide ((enc F).length < M2) = true := decide_eq_true (by omega)
        have t2 : decide (((enc F).length : Int) < (M2 : Int)) = true := decide_eq_true (by omega)
        have hMps : May ps.length := by rw [hpl]; exact hM
        have HS := hide hs
        have hrest := hide (And.intro hM2 hMps)
        have hM3b : M2 ≤ (enc F).length + 16390 := by omega
        have hM3c : (enc F).length < M2 := by omega
        clear hM hs e1 hM2 hMps hcell hM3
        generalize (enc F).length = M1 at *
        go_wp2_with (first
          | (go_at_call 8; (with_reducible refine hput.out.mono ?_); rintro e w1 ⟨A1, c1, rfl, o1, k1⟩; have o1 := hide o1; have k1 := hide k1; have he2 := hide ((own_below hh.out.e k1.out).alloc (.cells #[.int .i64 (M2 : Int)] 3)); have hsz1 := k1.out.size; have hsz0 := hh.out.old.size)
          | (at_builtin; refine wpList_append_own _ rfl (.tmp 37) (.tmp 40) 38 rfl W.heap.size 3 i3 _ 1 8 Try.underlying38 hi3 hj0 hj1 hj2 rfl (by omega) _ F.length (i64s (ends F)) rfl he2.out ⟨w1.heap.size, 0, none⟩ 1 1 [.int .i64 (M2 : Int)] rfl rfl (cell_one_new _ _ _) (by intro u hu; rw [List.mem_singleton] at hu; subst hu; rfl) (by unfold maxLen; omega) (by omega) (by simp; omega) ?_))
        intro v3 w3 o3 g3 _
        have hmid := hh.out.mid k1.out g3
        have hc3 := (hmid.2.cell (p := ⟨b, off + i, none⟩) hbl).trans hcellW
        have hk4 := hide (hmid.1 (.cells #[.slice pA pn pc] 22))
        have hsz3 := hmid.2.size
        have o3' := hide o3
        have g3' := hide g3
        clear hmid o3 g3 he2
        go_wp2_with (at_builtin; refine wpList_append_own _ rfl (.tmp 42) (.tmp 47) 31 rfl W.heap.size 22 i22 _ 1 24 Try.underlying31 hi22 hk0 hk1 hk2 rfl (by omega) _ F.length vs rfl hk4.out ⟨w3.heap.size, 0, none⟩ 1 1 [.slice pA pn pc] rfl rfl (cell_one_new _ _ _) (by intro u hu; rw [List.mem_singleton] at hu; subst hu; rfl) (by unfold maxLen; omega) (by omega) (by simp; omega) ?_)
        intro v5 w5 o5 g5 _
        have hmore := hide (Held.more (pc := pc) hh.out hrest.out.2 HS.out.oct HS.out.lies hrest.out.1 o1.out k1.out o3'.out g3'.out (by rw [hpl]; exact o5) g5)
        have hr1 := hide hrest.out.1
        clear o5 g5 o3' g3' hk4 hc3 hh hput HS hrest hsz3 o1 k1 hcellW hc1 hbl
        go_wp2
        go_roundw
        case rel => exact ⟨i + 1, F ++ [ps], _, A1, c1, by omega, by omega, by go_num, by rw [List.length_append]; simp; omega, by rw [hr1.out], by rw [hr1.out]; exact hmore⟩
        case measure => simp [intOf]; omega
      · have e1 : putF (enc F) ps = enc F := by unfold putF; rw [hpl, if_neg hM]
        rw [e1] at hput
        have hput := hide hput
        have hM1 := hide (show (enc F).length = (enc F).length from rfl)
        clear hM hs e1 hcell hcellW hbl
        obtain ⟨M1, hM1⟩ : ∃ M1, (enc F).length = M1 := ⟨_, rfl⟩
        have hM1' := hide hM1
        rw [hM1] at hput hh hEle
        rw [hM1]
        clear hM1
        go_wp2_with (go_at_call 8; (with_reducible refine hput.out.mono ?_); rintro e w1 ⟨A1, c1, rfl, o1, k1⟩; have o1 := hide o1; have k1 := hide k1)
        have hmore := hide (Held.put (b1 := .slice A1 M1 c1) (F := F) hh.out (by rw [hM1'.out]; exact o1.out) k1.out)
        clear hh hput o1 k1 hc1
        go_roundw
        case rel => exact ⟨i + 1, F, vs, A1, c1, by omega, by omega, by go_num, by omega, by rw [hM1'.out], by rw [hM1'.out]; exact hmore⟩
        case measure => simp [intOf]; omega
    · have hM := enc_le hh.out.right
      obtain ⟨K, hK, hw⟩ := within_to a1 (enc F).length (by omega)
      obtain ⟨J, hJF, hJ1, hJ2⟩ := whole_ F K
      have hf := cut_found hh.out.right hJF hJ1 hJ2
      obtain ⟨Ae, ce, rfl, hends⟩ := hh.out.shape
      obtain ⟨Ak, ck, rfl, hck, hparts⟩ := hh.out.parts
      have hends := hide hends
      have hparts := hide hparts
      have hf := hide hf
      have hw := hide hw
      have hcb := (own_len hh.out.b).2
      by_cases hin2 : i < n
      · have t1 : decide (i < n) = true := decide_eq_true hin2
        have t2 : decide ((i : Int) < (n : Int)) = true := decide_eq_true (by omega)
        obtain rfl : i = 20 := by omega

        go_wp2_with (go_at_call 18; (with_reducible refine (hw.out _).mono ?_); rintro e w1 ⟨rfl, rfl⟩)
        go_loopw [11] (fun jv wr2 => ∃ j : Nat, j ≤ J ∧ jv = .int .i64 j ∧ Hid (wr2 = wr)) (fun jv _ => J - (intOf jv).toNat)
        case atStart => exact ⟨0, by omega, rfl, hide rfl⟩
        case round =>
          obtain ⟨j, hj, rfl, hwr⟩ := hrel
          obtain rfl := hwr.out
          by_cases hjJ : j < J
          · obtain ⟨g, rfl, hce, _, hcj⟩ := hends.out j (by omega)
            have hle := hide (Nat.le_trans (take_mono F (show j + 1 ≤ J by omega)) hJ1)
            have q1 : decide (((enc (F.take (j + 1))).length : Int) ≤ (K : Int)) = true := decide_eq_true (by have := hle.out; omega)
            have q2 : decide (j < F.length) = true := decide_eq_true (by omega)
            have q3 : decide ((j : Int) < (F.length : Int)) = true := decide_eq_true (by omega)
            generalize (enc (F.take (j + 1))).length = E1 at *
            go_wp2
            go_roundw
            case rel => exact ⟨j + 1, by omega, by go_num, hide trivial⟩
            case measure => simp [intOf]; omega
          · obtain rfl : j = J := by omega
            have hlen : (F.take j).length = j := by rw [List.length_take]; omega
            have hsc := (fscan_any Ab K cb ((enc F).take K) wr (by rw [List.length_take]; omega) ((Lies.of_own hh.out.b).take K) (by omega) (fun z hz => octets_enc hh.out.right z (List.mem_of_mem_take hz)) (by omega)).mono fun _ _ h => h.is hf.out.1
            rw [hf.out.2.1, hf.out.2.2] at hsc
            have hsc := hide hsc
            have hbig := hide (show ∀ p ∈ F.take j, p.length ≤ 4611686018427387904 from fun p hp => by have := (hh.out.right p (List.mem_of_mem_take hp)).1.2; omega)
            have hli := hide (fun (A3 : Option Addr) (c3 : Nat) (w3 : World) (hp3 : PartsL w3 A3 (F.take j)) (hc3 : j ≤ c3) (k3 : Below wr.heap.size wr w3) => by
              have h := lists_any A3 Ak j j c3 ck (F.take j) (F.take j) w3 hlen hlen hp3 ((hparts.out.below k3).take j) hc3 (by omega) (by omega) (by omega) hbig.out hbig.out
              rw [decide_eq_true rfl] at h
              exact h)
            have hold := hide hh.out.old
            have hKcb : K ≤ cb := by omega
            have hjck : j ≤ ck := by omega
            rcases Nat.eq_zero_or_pos j with h0 | h0
            · subst h0
              have e0 : (enc (F.take 0)).length = 0 := rfl
              rw [e0] at hsc
              by_cases hJF2 : 0 < F.length
              · obtain ⟨g, rfl, hce, _, hcj⟩ := hends.out 0 hJF2
                have hgt := hJ2 hJF2
                have q1 : decide (((enc (F.take (0 + 1))).length : Int) ≤ (K : Int)) = false := decide_eq_false (by omega)
                have q1' : decide ((enc (F.take (0 + 1))).length ≤ K) = false := decide_eq_false (by omega)
                have q2 : decide (0 < F.length) = true := decide_eq_true (by omega)
                have q3 : decide ((0 : Int) < (F.length : Int)) = true := decide_eq_true (by omega)
                clear hh hf hends hparts hJ1 hJ2 hgt
                generalize (enc (F.take (0 + 1))).length = E1 at *
                go_wp2_with (first
                  | (go_at_call 12; (with_reducible refine hsc.out.mono ?_); rintro e w3 ⟨A3, c3, rfl, hc3, hp3, k3⟩; have hli3 := hide (hli.out A3 c3 w3 hp3 hc3 k3); have k3' := hide k3; clear hp3 k3)
                  | (go_at_call 16; (with_reducible refine hli3.out.mono ?_); rintro e w4 ⟨rfl, q, rfl⟩)
                  | (go_at_call 3; (with_reducible refine (runs_any _).mono ?_); rintro e w9 ⟨rfl, hb9⟩))
                go_ret
                exact ⟨rfl, kept_trans (kept_drewN (kept_trans hold.out k3'.out) _) hb9⟩
              · have q2 : decide (0 < F.length) = false := decide_eq_false hJF2
                have q3 : decide ((0 : Int) < (F.length : Int)) = false := decide_eq_false (by omega)
                have q4 : F.length = 0 := by omega
                clear hh hf hends hparts hJ1 hJ2
                go_wp2_with (first
                  | (go_at_call 12; (with_reducible refine hsc.out.mono ?_); rintro e w3 ⟨A3, c3, rfl, hc3, hp3, k3⟩; have hli3 := hide (hli.out A3 c3 w3 hp3 hc3 k3); have k3' := hide k3; clear hp3 k3)
                  | (go_at_call 16; (with_reducible refine hli3.out.mono ?_); rintro e w4 ⟨rfl, q, rfl⟩)
                  | (go_at_call 3; (with_reducible refine (runs_any _).mono ?_); rintro e w9 ⟨rfl, hb9⟩))
                go_ret
                exact ⟨rfl, kept_trans (kept_drewN (kept_trans hold.out k3'.out) _) hb9⟩
            · obtain ⟨j', rfl⟩ : ∃ j', j = j' + 1 := ⟨j - 1, by omega⟩
              obtain ⟨g, rfl, hce, hgl, hcl⟩ := hends.out j' (by omega)
              by_cases hJF2 : j' + 1 < F.length
              · obtain ⟨g', hg', _, _, hcj⟩ := hends.out (j' + 1) hJF2
                injection hg' with hg'
                injection hg' with hg'
                subst hg'
                have hgt := hJ2 hJF2
                have q1 : decide (((enc (F.take (j' + 1 + 1))).length : Int) ≤ (K : Int)) = false := decide_eq_false (by omega)
                have q1' : decide ((enc (F.take (j' + 1 + 1))).length ≤ K) = false := decide_eq_false (by omega)
                have q2 : decide (j' + 1 < F.length) = true := decide_eq_true (by omega)
                have q3 : decide ((j' : Int) + 1 < (F.length : Int)) = true := decide_eq_true (by omega)
                clear hh hf hends hparts hJ1 hJ2 hgt
                generalize (enc (F.take (j' + 1 + 1))).length = E1 at *
                generalize (enc (F.take (j' + 1))).length = E2 at *
                go_wp2_with (first
                  | (go_at_call 12; (with_reducible refine hsc.out.mono ?_); rintro e w3 ⟨A3, c3, rfl, hc3, hp3, k3⟩; have hli3 := hide (hli.out A3 c3 w3 hp3 hc3 k3); have k3' := hide k3; have hcl3 := (k3.cell (p := ⟨g, j', none⟩) hgl).trans hcl; clear hp3 k3)
                  | (go_at_call 16; (with_reducible refine hli3.out.mono ?_); rintro e w4 ⟨rfl, q, rfl⟩)
                  | (go_at_call 3; (with_reducible refine (runs_any _).mono ?_); rintro e w9 ⟨rfl, hb9⟩))
                go_ret
                exact ⟨rfl, kept_trans (kept_drewN (kept_trans hold.out k3'.out) _) hb9⟩
              · have q2 : decide (j' + 1 < F.length) = false := decide_eq_false hJF2
                have q3 : decide ((j' : Int) + 1 < (F.length : Int)) = false := decide_eq_false (by omega)
                clear hh hf hends hparts hJ1 hJ2
                generalize (enc (F.take (j' + 1))).length = E2 at *
                go_wp2_with (first
                  | (go_at_call 12; (with_reducible refine hsc.out.mono ?_); rintro e w3 ⟨A3, c3, rfl, hc3, hp3, k3⟩; have hli3 := hide (hli.out A3 c3 w3 hp3 hc3 k3); have k3' := hide k3; have hcl3 := (k3.cell (p := ⟨g, j', none⟩) hgl).trans hcl; clear hp3 k3)
                  | (go_at_call 16; (with_reducible refine hli3.out.mono ?_); rintro e w4 ⟨rfl, q, rfl⟩)
                  | (go_at_call 3; (with_reducible refine (runs_any _).mono ?_); rintro e w9 ⟨rfl, hb9⟩))
                go_ret
                exact ⟨rfl, kept_trans (kept_drewN (kept_trans hold.out k3'.out) _) hb9⟩

      · have t1 : decide (i < n) = false := decide_eq_false hin2
        have t2 : decide ((i : Int) < (n : Int)) = false := decide_eq_false (by omega)
        go_wp2_with (go_at_call 18; (with_reducible refine (hw.out _).mono ?_); rintro e w1 ⟨rfl, rfl⟩)
        go_loopw [11] (fun jv wr2 => ∃ j : Nat, j ≤ J ∧ jv = .int .i64 j ∧ Hid (wr2 = wr)) (fun jv _ => J - (intOf jv).toNat)
        case atStart => exact ⟨0, by omega, rfl, hide rfl⟩
        case round =>
          obtain ⟨j, hj, rfl, hwr⟩ := hrel
          obtain rfl := hwr.out
          by_cases hjJ : j < J
          · obtain ⟨g, rfl, hce, _, hcj⟩ := hends.out j (by omega)
            have hle := hide (Nat.le_trans (take_mono F (show j + 1 ≤ J by omega)) hJ1)
            have q1 : decide (((enc (F.take (j + 1))).length : Int) ≤ (K : Int)) = true := decide_eq_true (by have := hle.out; omega)
            have q2 : decide (j < F.length) = true := decide_eq_true (by omega)
            have q3 : decide ((j : Int) < (F.length : Int)) = true := decide_eq_true (by omega)
            generalize (enc (F.take (j + 1))).length = E1 at *
            go_wp2
            go_roundw
            case rel => exact ⟨j + 1, by omega, by go_num, hide trivial⟩
            case measure => simp [intOf]; omega
          · obtain rfl : j = J := by omega
            have hlen : (F.take j).length = j := by rw [List.length_take]; omega
            have hsc := (fscan_any Ab K cb ((enc F).take K) wr (by rw [List.length_take]; omega) ((Lies.of_own hh.out.b).take K) (by omega) (fun z hz => octets_enc hh.out.right z (List.mem_of_mem_take hz)) (by omega)).mono fun _ _ h => h.is hf.out.1
            rw [hf.out.2.1, hf.out.2.2] at hsc
            have hsc := hide hsc
            have hbig := hide (show ∀ p ∈ F.take j, p.length ≤ 4611686018427387904 from fun p hp => by have := (hh.out.right p (List.mem_of_mem_take hp)).1.2; omega)
            have hli := hide (fun (A3 : Option Addr) (c3 : Nat) (w3 : World) (hp3 : PartsL w3 A3 (F.take j)) (hc3 : j ≤ c3) (k3 : Below wr.heap.size wr w3) => by
              have h := lists_any A3 Ak j j c3 ck (F.take j) (F.take j) w3 hlen hlen hp3 ((hparts.out.below k3).take j) hc3 (by omega) (by omega) (by omega) hbig.out hbig.out
              rw [decide_eq_true rfl] at h
              exact h)
            have hold := hide hh.out.old
            have hKcb : K ≤ cb := by omega
            have hjck : j ≤ ck := by omega
            rcases Nat.eq_zero_or_pos j with h0 | h0
            · subst h0
              have e0 : (enc (F.take 0)).length = 0 := rfl
              rw [e0] at hsc
              by_cases hJF2 : 0 < F.length
              · obtain ⟨g, rfl, hce, _, hcj⟩ := hends.out 0 hJF2
                have hgt := hJ2 hJF2
                have q1 : decide (((enc (F.take (0 + 1))).length : Int) ≤ (K : Int)) = false := decide_eq_false (by omega)
                have q1' : decide ((enc (F.take (0 + 1))).length ≤ K) = false := decide_eq_false (by omega)
                have q2 : decide (0 < F.length) = true := decide_eq_true (by omega)
                have q3 : decide ((0 : Int) < (F.length : Int)) = true := decide_eq_true (by omega)
                clear hh hf hends hparts hJ1 hJ2 hgt
                generalize (enc (F.take (0 + 1))).length = E1 at *
                go_wp2_with (first
                  | (go_at_call 12; (with_reducible refine hsc.out.mono ?_); rintro e w3 ⟨A3, c3, rfl, hc3, hp3, k3⟩; have hli3 := hide (hli.out A3 c3 w3 hp3 hc3 k3); have k3' := hide k3; clear hp3 k3)
                  | (go_at_call 16; (with_reducible refine hli3.out.mono ?_); rintro e w4 ⟨rfl, q, rfl⟩)
                  | (go_at_call 3; (with_reducible refine (runs_any _).mono ?_); rintro e w9 ⟨rfl, hb9⟩))
                go_ret
                exact ⟨rfl, kept_trans (kept_drewN (kept_trans hold.out k3'.out) _) hb9⟩
              · have q2 : decide (0 < F.length) = false := decide_eq_false hJF2
                have q3 : decide ((0 : Int) < (F.length : Int)) = false := decide_eq_false (by omega)
                have q4 : F.length = 0 := by omega
                clear hh hf hends hparts hJ1 hJ2
                go_wp2_with (first
                  | (go_at_call 12; (with_reducible refine hsc.out.mono ?_); rintro e w3 ⟨A3, c3, rfl, hc3, hp3, k3⟩; have hli3 := hide (hli.out A3 c3 w3 hp3 hc3 k3); have k3' := hide k3; clear hp3 k3)
                  | (go_at_call 16; (with_reducible refine hli3.out.mono ?_); rintro e w4 ⟨rfl, q, rfl⟩)
                  | (go_at_call 3; (with_reducible refine (runs_any _).mono ?_); rintro e w9 ⟨rfl, hb9⟩))
                go_ret
                exact ⟨rfl, kept_trans (kept_drewN (kept_trans hold.out k3'.out) _) hb9⟩
            · obtain ⟨j', rfl⟩ : ∃ j', j = j' + 1 := ⟨j - 1, by omega⟩
              obtain ⟨g, rfl, hce, hgl, hcl⟩ := hends.out j' (by omega)
              by_cases hJF2 : j' + 1 < F.length
              · obtain ⟨g', hg', _, _, hcj⟩ := hends.out (j' + 1) hJF2
                injection hg' with hg'
                injection hg' with hg'
                subst hg'
                have hgt := hJ2 hJF2
                have q1 : decide (((enc (F.take (j' + 1 + 1))).length : Int) ≤ (K : Int)) = false := decide_eq_false (by omega)
                have q1' : decide ((enc (F.take (j' + 1 + 1))).length ≤ K) = false := decide_eq_false (by omega)
                have q2 : decide (j' + 1 < F.length) = true := decide_eq_true (by omega)
                have q3 : decide ((j' : Int) + 1 < (F.length : Int)) = true := decide_eq_true (by omega)
                clear hh hf hends hparts hJ1 hJ2 hgt
                generalize (enc (F.take (j' + 1 + 1))).length = E1 at *
                generalize (enc (F.take (j' + 1))).length = E2 at *
                go_wp2_with (first
                  | (go_at_call 12; (with_reducible refine hsc.out.mono ?_); rintro e w3 ⟨A3, c3, rfl, hc3, hp3, k3⟩; have hli3 := hide (hli.out A3 c3 w3 hp3 hc3 k3); have k3' := hide k3; have hcl3 := (k3.cell (p := ⟨g, j', none⟩) hgl).trans hcl; clear hp3 k3)
                  | (go_at_call 16; (with_reducible refine hli3.out.mono ?_); rintro e w4 ⟨rfl, q, rfl⟩)
                  | (go_at_call 3; (with_reducible refine (runs_any _).mono ?_); rintro e w9 ⟨rfl, hb9⟩))
                go_ret
                exact ⟨rfl, kept_trans (kept_drewN (kept_trans hold.out k3'.out) _) hb9⟩
              · have q2 : decide (j' + 1 < F.length) = false := decide_eq_false hJF2
                have q3 : decide ((j' : Int) + 1 < (F.length : Int)) = false := decide_eq_false (by omega)
                clear hh hf hends hparts hJ1 hJ2
                generalize (enc (F.take (j' + 1))).length = E2 at *
                go_wp2_with (first
                  | (go_at_call 12; (with_reducible refine hsc.out.mono ?_); rintro e w3 ⟨A3, c3, rfl, hc3, hp3, k3⟩; have hli3 := hide (hli.out A3 c3 w3 hp3 hc3 k3); have k3' := hide k3; have hcl3 := (k3.cell (p := ⟨g, j', none⟩) hgl).trans hcl; clear hp3 k3)
                  | (go_at_call 16; (with_reducible refine hli3.out.mono ?_); rintro e w4 ⟨rfl, q, rfl⟩)
                  | (go_at_call 3; (with_reducible refine (runs_any _).mono ?_); rintro e w9 ⟨rfl, hb9⟩))
                go_ret
                exact ⟨rfl, kept_trans (kept_drewN (kept_trans hold.out k3'.out) _) hb9⟩
set_option maxRecDepth 100000 in
theorem lifted (os : Os) (started : os.Started) (H : Type) (enc : TypeId × Value → H) :
    ReturnsInHanded {} Try.checked os 5 .any (Rows.frameBackSpec.pre6 enc Try.prog Try.f5 Rows.frameBackRow.domain false) (Rows.frameBackSpec.post enc Try.prog Try.f5 false true false false) := by
  refine returnsInHanded_of_change_sized (C := Try.checked) own started (by kernel_rfl) Try.func5
    (ChangeSpec.witness6 (enc := enc) (C := Try.checked) false ⟨#[], #[.slice none 0 0, .int .i64 0], []⟩ 8 (by kernel_rfl) (by kernel_rfl) (by kernel_rfl) (by kernel_rfl)) ?_
  intro W base args ds gs before hval0 hW _ hsz0 _
  have hval : ∀ (j : Nat) t v, Try.f5.params[j]? = some t → args[j]? = some v → Value.okWide Try.prog W .any base t v := hval0
  have hW' := hW
  obtain ⟨p, q, hA0, hV, rfl, _, _⟩ := hW
  have hA : DataW.TrodAll enc Try.prog W 0 (fun _ => true) true Try.f5.params.toList args.toList ds p := hA0
  have hsz : (DataW.weightsEach Try.prog (Try.f5.params.toList ++ Rows.frameBackSpec.plain.varTypes Try.prog) (ds ++ gs)).all (· ≤ reachBytes) = true := hsz0
  rw [Try.params5] at hA hval hsz
  obtain ⟨v0, vs0, d0, ds0, p0, q0, hargs, rfl, rfl, h0, r0⟩ := trodAll_cons hA
  obtain ⟨v1, vs1, d1, ds1, p1, q1, rfl, rfl, rfl, h1, r1⟩ := trodAll_cons r0
  obtain ⟨rfl, rfl, rfl⟩ := trodAll_nil r1
  obtain rfl : args = #[v0, v1] := by cases args; simp_all
  obtain ⟨rfl, rfl⟩ := trodVars_none hV
  have k0 := h0
  have lt0 : ∀ x ∈ p0, x.block < W.heap.size := by obtain ⟨m, hm⟩ := k0; exact DataW.trod_lt m _ _ _ hm
  obtain ⟨A0, n0, c0, rfl⟩ := okWide_slice Try.underlying31 (hval 0 31 v0 rfl rfl)
  obtain ⟨z0, s0⟩ := parts_in (j := 0) h0 hsz rfl rfl
  obtain ⟨a1, rfl, rfl, rfl, w1⟩ := open_int Try.underlying3 (hval 1 3 v1 rfl rfl) h1
  clear hA0 hval0
  refine (walk A0 n0 c0 z0 a1 W s0 (bounds_i64 w1)).mono fun e W' ⟨he, bel⟩ => ?_
  subst he
  exact ⟨_, rfl, _, _, _, [], _, [], hW', trodAll_mk1 (shut_bool Try.underlying4 _), (trodAll_cons_mk (Below.trod laidOut (by kernel_rfl) (of_decide_eq_true (by kernel_rfl)) k0 bel lt0) (trodAll_cons_mk (shut_int Try.underlying3 w1) trodAll_mk0)), rfl, bel.frame _, fun h => by cases h⟩
theorem over : Rows.frameBackRow.holds Try.pinned (OpenSpec.ofChange Rows.frameBackSpec) :=
  OpenClaim.holds_of_wide 5 Try.f5 rfl rfl rfl rfl rfl rfl rfl ⟨rfl, rfl, rfl, rfl, rfl⟩ rfl rfl rfl rfl rfl (by kernel_rfl) Try.func5 (by kernel_rfl)
    (of_decide_eq_true (by kernel_rfl)) (by unfold Func.isWrapper; first | (rw [if_pos (by decide +kernel)]; kernel_rfl) | (rw [if_neg (by decide +kernel)]; exact ⟨rfl, rfl⟩))
    (fun os started H enc _ => lifted os started H enc)
theorem proved : Rows.FrameBackSaid := over
end Go.Proofs.Ytdmfblobmahfbaa.frameBack
