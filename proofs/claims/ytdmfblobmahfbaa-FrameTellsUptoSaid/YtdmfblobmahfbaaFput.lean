/- What package frame's Put and the document's Frame come to. Conditions: the slices lie in memory and hold bytes, their lengths have room. -/
import Derived.Test.YtdmfblobmahfbaaClo
import Derived.Test.YtdmfblobmahfbaaFrm
import Derived.Test.YtdmfblobmahfbaaGet
import Derived.Test.YtdmfblobmahfbaaPut
namespace Go.Proofs.Ytdmfblobmahfbaa
open Go.RowKit
set_option maxHeartbeats 400000 in
theorem may_yes (n : Int) (w : World) (h : 1 ≤ n ∧ n ≤ 16384) : Calls Try.prog 19 #[.int .i64 n] w fun e w' => e = .returned (.bool true) ∧ w = w' := by
  obtain ⟨h1, h2⟩ := h
  have t1 : decide ((1 : Int) ≤ n) = true := decide_eq_true h1
  have t2 : decide (n ≤ (16384 : Int)) = true := decide_eq_true h2
  go_enter Try.func19, Try.ntmps19
  go_wp2
  all_goals (go_ret; exact ⟨ret_bool (by simp [*]), rfl⟩)
set_option maxHeartbeats 400000 in
theorem may_no (n : Int) (w : World) (h : ¬ (1 ≤ n ∧ n ≤ 16384)) : Calls Try.prog 19 #[.int .i64 n] w fun e w' => e = .returned (.bool false) ∧ w = w' := by
  by_cases h1 : 1 ≤ n
  · have h2 : ¬ n ≤ 16384 := fun g => h ⟨h1, g⟩
    have t1 : decide ((1 : Int) ≤ n) = true := decide_eq_true h1
    have t2 : decide (n ≤ (16384 : Int)) = false := decide_eq_false h2
    clear h
    go_enter Try.func19, Try.ntmps19
    go_wp2
    all_goals (go_ret; exact ⟨ret_bool (by simp [*]), rfl⟩)
  · have t1 : decide ((1 : Int) ≤ n) = false := decide_eq_false h1
    clear h
    go_enter Try.func19, Try.ntmps19
    go_wp2
    all_goals (go_ret; exact ⟨ret_bool (by simp [*]), rfl⟩)
theorem put2 (A : Option Addr) (n c : Nat) (zs : List Int) (u : Int) (w : World) (hn : zs.length = n) (hz : Lies w A zs) (hc : A = none → c = 0) (ln : n ≤ 199999999999990) :
    Calls Try.prog 21 #[.slice A n c, .int .i64 2, .int .u64 u] w (Cloned w (n + 2) (zs ++ putL u 2)) :=
  (put_any A n c zs 2 u w hn hz hc ln).mono fun _ _ ⟨he, ho, hb⟩ => ⟨_, _, he, ho, hb⟩
theorem put4 (A : Option Addr) (n c : Nat) (zs : List Int) (u : Int) (w : World) (hn : zs.length = n) (hz : Lies w A zs) (hc : A = none → c = 0) (ln : n ≤ 199999999999990) :
    Calls Try.prog 21 #[.slice A n c, .int .i64 4, .int .u64 u] w (Cloned w (n + 4) (zs ++ putL u 4)) :=
  (put_any A n c zs 4 u w hn hz hc ln).mono fun _ _ ⟨he, ho, hb⟩ => ⟨_, _, he, ho, hb⟩
theorem part_own {w : World} {b k c n : Nat} {A : Option Addr} {xs ys : List Int} (h : w.ownsRow b 5 1 (.slice A k c) k (cellsOf (xs ++ ys))) (hx : xs.length = n) : Lies w (partA A c n) ys := by
  have h1 := (Lies.of_own h).rest (c := c) (by have := (own_len h).2; have := h.1; rw [length_cellsOf] at this; omega) n
  rw [← hx, List.drop_left] at h1
  rw [← hx]; exact h1
set_option maxHeartbeats 1000000 in
theorem fput_any (A : Option Addr) (n c : Nat) (zs : List Int) (B : Option Addr) (m d : Nat) (ps : List Int) (w : World) (hn : zs.length = n) (hz : Lies w A zs) (hc : A = none → c = 0) (ln : n ≤ 199999999900000)
    (hm : ps.length = m) (hp : Lies w B ps) (hd : B = none → d = 0) (op : Octets ps) :
    Calls Try.prog 8 #[.slice A n c, .slice B m d] w (Cloned w (putF zs ps).length (putF zs ps)) := by
  by_cases hM : May m
  · have l0 := hM.1
    have l1 := hM.2
    have e1 : putF zs ps = zs ++ frm ps := by unfold putF; rw [hm, if_pos hM]
    have e2 : (putF zs ps).length = n + 2 + m + 4 := by rw [e1, List.length_append, length_frm]; omega
    have hres := hide (show zs ++ body ps ++ putL (sumL (body ps)) 4 = putF zs ps by rw [e1]; unfold frm; rw [List.append_assoc])
    have hob := hide (octets_body op)
    have hlb := hide (show (body ps).length = 2 + m by rw [length_body]; omega)
    have hb := hide (show putL (m : Int) 2 ++ ps = body ps by unfold body; rw [hm])
    have hmay := hide (fun w => may_yes (m : Int) w ⟨by omega, by omega⟩)
    have hl3 := hide (show (zs ++ body ps).length = n + 2 + m by rw [List.length_append, length_body]; omega)
    rw [e2]
    obtain ⟨i0, hi, hz0, hz1, hz2⟩ := info_parts Try.info5
    have H := hide (And.intro hz (And.intro hp hd))
    have hc := hide hc
    clear hz hp hM e1 e2 op hd
    go_enter Try.func8, Try.ntmps8
    go_wp2_with (first
      | (go_at_call 19; (with_reducible refine (hmay.out _).mono ?_); rintro e w1 ⟨rfl, rfl⟩)
      | (go_at_call 21; (with_reducible refine (put2 A n c zs (m : Int) w hn H.out.1 hc.out (by omega)).mono ?_); rintro e w1 ⟨A1, c1, rfl, o1, k1⟩; have o1' := hide o1; have k1' := hide k1; clear o1 k1)
      | (at_builtin; refine wpList_append_lies rfl (.tmp 16) (.tmp 17) 22 rfl w.heap.size 5 i0 _ Try.underlying22 hi hz0 hz1 hz2 rfl _ (n + 2) (zs ++ putL (m : Int) 2) rfl o1'.out B m d ps rfl hm H.out.2.2 (H.out.2.1.below k1'.out) (by omega) k1'.out.size ?_))
    intro v2 w2 o2 k2
    rw [hb.out] at o2
    obtain ⟨A2, c2, rfl, hA2⟩ := own_shape o2
    have hle := (own_len o2).2
    have o2' := hide o2
    have hA2 := hide hA2
    have k2' := hide (k1'.out.trans k2)
    clear o2 k2 o1' k1'
    have p1 : partA A2 c2 n = Option.map (fun x => x.add n) A2 := if_neg (by omega)
    have f1 : n ≤ c2 := by omega
    have f2 : n ≤ n + 2 + m := by omega
    have f3 : (n : Int) ≤ (n : Int) + 2 + (m : Int) := by omega
    have e3 : n + 2 + m - n = 2 + m := by omega
    have hs := sumL_bounds hob.out
    have hof := hide (of_any (partA A2 c2 n) (2 + m) (c2 - n) (body ps) w2 hlb.out (part_own o2'.out hn) hob.out (by omega))
    have hpu := hide (put4 A2 (n + 2 + m) c2 (zs ++ body ps) (sumL (body ps)) w2 hl3.out (Lies.of_own o2'.out) hA2.out (by omega))
    change Hid (Calls _ _ _ _ fun e w' => e = .returned (.int .u32 (sumL (body ps))) ∧ w2 = w') at hof
    rw [p1] at hof
    clear p1
    generalize sumL (body ps) = sm at *
    go_wp2_with (first
      | (go_at_call 22; (with_reducible refine hof.out.mono ?_); rintro e w3 ⟨rfl, rfl⟩)
      | (go_at_call 21; (with_reducible refine hpu.out.mono ?_); rintro e w3 ⟨A3, c3, rfl, o3, k3⟩; have o3' := hide o3; have k3' := hide k3; clear o3 k3))
    go_ret
    refine ⟨A3, c3, rfl, ?_, k2'.out.trans (k3'.out.mono k2'.out.size)⟩
    rw [← hres.out]
    exact own_mono o3'.out k2'.out.size
  · have e1 : putF zs ps = zs := by unfold putF; rw [hm, if_neg hM]
    rw [e1, hn]
    have hmay := hide (fun w => may_no (m : Int) w (fun h => hM ⟨by omega, by omega⟩))
    have hcl := hide (clone_any A n c zs w hn hz hc (by omega))
    clear hM e1 hz hc hp hd op
    go_enter Try.func8, Try.ntmps8
    go_wp2_with (first
      | (go_at_call 19; (with_reducible refine (hmay.out _).mono ?_); rintro e w1 ⟨rfl, rfl⟩)
      | (go_at_call 20; (with_reducible refine hcl.out.mono ?_); rintro e w1 ⟨A1, c1, rfl, o1, k1⟩))
    go_ret
    exact ⟨A1, c1, rfl, o1, k1⟩
end Go.Proofs.Ytdmfblobmahfbaa
