/- What lists comes to: are two lists of lists of bytes the same. Conditions: they lie in memory, their lengths have room. -/
import Derived.Test.YtkmcnhjfnjikaaaGreatDoorVrun
import Derived.BigQuiet
import Derived.Deep.QuietTactic
namespace Go.Proofs.YtkmcnhjfnjikaaaGreatDoor
open Go.RowKit Go.Maps
theorem same_q {A B : Option Addr} {n m c d : Nat} {xs ys : List Int} {w : World} (hn : xs.length = n) (hm : ys.length = m) (hA : Lies w A xs) (hB : Lies w B ys) (ln : n ≤ 1000000) (lm : m ≤ 1000000) (q : Nat) :
    Calls Tryz.prog 58 #[.slice A n c, .slice B m d] (w.drewN q) fun e w'' => e = .returned (.bool (decide (xs = ys))) ∧ ∃ m, w'' = w.drewN m :=
  (same_any A B n m c d xs ys (w.drewN q) hn hm hA hB (by omega) (by omega)).mono fun _ _ ⟨h1, m, h2⟩ => ⟨h1, q + m, by rw [h2]; exact World.drewN_drewN _ _ _⟩
set_option maxRecDepth 100000 in
set_option maxHeartbeats 1000000 in
theorem lists_any {Y Y' : Nat → Prop} {A B : Option Addr} {n m c d : Nat} {L M : List (List Int)} {w : World} (hA : Recs Y w A c L) (hB : Recs Y' w B d M) (hn : L.length = n) (hm : M.length = m) (ln : n ≤ 100000) (lm : m ≤ 100000)
    (sL : ∀ p, p ∈ L → p.length ≤ 1000000) (sM : ∀ p, p ∈ M → p.length ≤ 1000000) :
    Calls Tryz.prog 26 #[.slice A n c, .slice B m d] w fun e w' => e = .returned (.bool (decide (L = M))) ∧ ∃ q, w' = w.drewN q := by
  have hA := hide hA
  have hB := hide hB
  have sL := hide sL
  have sM := hide sM
  by_cases hlen : n = m
  · subst hlen
    have t1 : ((n : Int) != (n : Int)) = false := by simp
    have hn' := hide hn
    have hm' := hide hm
    go_enter Tryz.func26, Tryz.ntmps26
    go_wp2
    go_loopw [5] (fun i wr => ∃ (j q : Nat), j ≤ n ∧ i = .int .i64 j ∧ Hid (wr = w.drewN q) ∧ Hid (L.take j = M.take j)) (fun i _ => n - (intOf i).toNat)
    case atStart => exact ⟨0, 0, by omega, rfl, rfl, (show L.take 0 = M.take 0 from rfl)⟩
    case round =>
      obtain ⟨j, q, hj, rfl, hw, hT⟩ := hrel
      by_cases hlt : j < n
      · obtain ⟨x, hx⟩ : ∃ y, L[j]? = some y := ⟨L[j]'(by omega), List.getElem?_eq_getElem (by omega)⟩
        obtain ⟨y, hy⟩ : ∃ y, M[j]? = some y := ⟨M[j]'(by omega), List.getElem?_eq_getElem (by omega)⟩
        obtain ⟨b, off, rfl, _, hbl, A', c', hc, hel, _⟩ := hA.out.at' j x hx
        obtain ⟨b2, off2, rfl, _, hbl2, A2, c2, hc2, hel2, _⟩ := hB.out.at' j y hy
        obtain ⟨k1, hk1⟩ : ∃ m, x.length = m := ⟨_, rfl⟩
        obtain ⟨k2, hk2⟩ : ∃ m, y.length = m := ⟨_, rfl⟩
        rw [hk1] at hc
        rw [hk2] at hc2
        have ew := hw.out
        have hc : wr.cell? ⟨b, off + j, none⟩ = some (.slice A' k1 c') := by rw [ew]; exact hc
        have hc2 : wr.cell? ⟨b2, off2 + j, none⟩ = some (.slice A2 k2 c2) := by rw [ew]; exact hc2
        have hz1 : Lies wr A' x := by rw [ew]; exact hel.lies
        have hz2 : Lies wr A2 y := by rw [ew]; exact hel2.lies
        clear ew
        have hsm := hide (fun q => same_q (c := c') (d := c2) hk1 hk2 hz1 hz2 (by have := sL.out x (List.mem_of_getElem? hx); omega) (by have := sM.out y (List.mem_of_getElem? hy); omega) q)
        have hx := hide hx
        have hy := hide hy
        clear hel hel2 hk1 hk2 hz1 hz2
        by_cases he : x = y
        · have hT2 := hide (show L.take (j + 1) = M.take (j + 1) by rw [List.take_add_one, List.take_add_one, hx.out, hy.out, hT.out, he])
          rw [decide_eq_true he] at hsm
          clear he
          go_wp2
          go_quiet ((go_at_call 58; exact hsm.out _))
          go_wp2
          go_roundw
          case rel => exact ⟨j + 1, _, by omega, by simp; try omega, by rw [hw.out]; exact World.drewN_drewN _ _ _, hT2⟩
          case measure => simp [intOf]; omega
        · have hne := hide (show L ≠ M from fun h => he (by have h1 := hx.out; have h2 := hy.out; rw [h, h2] at h1; exact (Option.some.inj h1).symm))
          rw [decide_eq_false he] at hsm
          clear he
          go_wp2
          go_quiet ((go_at_call 58; exact hsm.out _))
          go_wp2
          go_ret
          exact ⟨by rw [decide_eq_false hne.out]; rfl, _, by rw [hw.out]; exact World.drewN_drewN _ _ _⟩
      · obtain rfl : j = n := by omega
        have hE := hide (show L = M by have h1 := hT.out; rwa [List.take_of_length_le (by omega), List.take_of_length_le (by omega)] at h1)
        clear hn hm
        go_wp2
        go_ret
        exact ⟨by rw [decide_eq_true hE.out]; rfl, q, hw.out⟩
  · have t1 : ((n : Int) != (m : Int)) = true := by simp; omega
    have hne := hide (show L ≠ M from fun h => hlen (by rw [← hn, ← hm, h]))
    clear hn hm hlen
    go_enter Tryz.func26, Tryz.ntmps26
    go_wp2
    go_ret
    exact ⟨by rw [decide_eq_false hne.out]; rfl, 0, rfl⟩
end Go.Proofs.YtkmcnhjfnjikaaaGreatDoor
