/- What package frame's Next comes to. Conditions: the slice lies in memory and holds bytes, its length has room. -/
import Derived.Test.YtdmfblobmahfbaaFput
import Derived.Test.YtdmfblobmahfbaaOwn
namespace Go.Proofs.Ytdmfblobmahfbaa
open Go.RowKit
/-- What Next answers. -/
def Nexted (w : World) (zs : List Int) (i : Int) (e : Ending) (w' : World) : Prop :=
  ∃ A' c', e = .returned (.tuple #[.slice A' (nextP zs i).length c', .int .i64 (nextT zs i), .int .i64 (nextE zs i)]) ∧
    w'.ownsRow w.heap.size 5 1 (.slice A' (nextP zs i).length c') (nextP zs i).length (cellsOf (nextP zs i)) ∧ Below w.heap.size w w'
theorem Nexted.wrong {w : World} {zs : List Int} {i : Int} {E : Int} (h : nextE zs i = E) (hE : E ≠ 0) : Nexted w zs i (.returned (.tuple #[.slice none 0 0, .int .i64 0, .int .i64 E])) w := by
  have h1 : nextP zs i = [] := by unfold nextP; rw [h, if_neg hE]
  have h2 : nextT zs i = 0 := by unfold nextT; rw [h, if_neg hE]
  unfold Nexted
  rw [h1, h2, h]
  exact ⟨none, 0, rfl, World.ownsRow_nil _ _ _ _, Below.refl _ _⟩
section
variable {A : Option Addr} {n c : Nat} {zs : List Int} {w : World}
theorem get_bad {i m : Int} (hn : zs.length = n) (hz : Lies w A zs) (ho : Octets zs) (ln : n ≤ 199999999999990) (h : i < 0 ∨ (n : Int) < i) :
    Calls Try.prog 23 #[.slice A n c, .int .i64 i, .int .i64 m] w fun e w' => e = .returned (.tuple #[.int .u64 0, .int .i64 1]) ∧ w = w' := by
  have hb : GetBad zs i m := by unfold GetBad; rw [hn]; omega
  have h0 := get_any A n c zs i m w hn hz ho (by omega)
  unfold getV getE at h0
  rwa [if_pos hb, if_pos hb] at h0
theorem get_short {I m : Nat} (M : Int) (hM : M = m) (hn : zs.length = n) (hz : Lies w A zs) (ho : Octets zs) (ln : n ≤ 199999999999990) (hm : 1 ≤ m ∧ m ≤ 8) (hI : I ≤ n) (h : n - I < m) :
    Calls Try.prog 23 #[.slice A n c, .int .i64 (I : Int), .int .i64 M] w fun e w' => e = .returned (.tuple #[.int .u64 0, .int .i64 3]) ∧ w = w' := by
  subst hM
  have hb : ¬ GetBad zs (I : Int) (m : Int) := by unfold GetBad; rw [hn]; omega
  have h1 : (zs.length : Int) - (I : Int) < (m : Int) := by omega
  have h0 := get_any A n c zs I m w hn hz ho (by omega)
  unfold getV getE at h0
  rwa [if_neg hb, if_neg hb, if_pos h1, if_pos h1] at h0
theorem get_ok {I m : Nat} (J M : Int) (hJ : J = I) (hM : M = m) (hn : zs.length = n) (hz : Lies w A zs) (ho : Octets zs) (ln : n ≤ 199999999999990) (hm : 1 ≤ m ∧ m ≤ 8) (h : I + m ≤ n) :
    Calls Try.prog 23 #[.slice A n c, .int .i64 J, .int .i64 M] w fun e w' => e = .returned (.tuple #[.int .u64 (le zs I m), .int .i64 0]) ∧ w = w' := by
  subst hM hJ
  have hb : ¬ GetBad zs (I : Int) (m : Int) := by unfold GetBad; rw [hn]; omega
  have h1 : ¬ (zs.length : Int) - (I : Int) < (m : Int) := by omega
  have h0 := get_any A n c zs I m w hn hz ho (by omega)
  unfold getV getE at h0
  rwa [if_neg hb, if_neg hb, if_neg h1, if_neg h1, Int.toNat_natCast, Int.toNat_natCast] at h0
end
theorem nextE_at {zs : List Int} {I : Nat} (h : I ≤ zs.length) : nextE zs (I : Int) = nxE (zs.drop I) := by
  unfold nextE; rw [if_neg (by omega), Int.toNat_natCast]
theorem nxN_at (zs : List Int) (I : Nat) : nxN (zs.drop I) = (le zs I 2).toNat := by unfold nxN; rw [le_drop]; rfl
set_option maxHeartbeats 1000000 in
theorem fnext_any (A : Option Addr) (n c : Nat) (zs : List Int) (i : Int) (w : World) (hn : zs.length = n) (hz : Lies w A zs) (hc : n ≤ c) (ho : Octets zs) (ln : n ≤ 199999999900000) (hi : -9223372036854775808 ≤ i ∧ i ≤ 9223372036854775807) :
    Calls Try.prog 9 #[.slice A n c, .int .i64 i] w (Nexted w zs i) := by
  by_cases hbad : i < 0 ∨ (n : Int) < i
  · have hE : nextE zs i = 1 := by unfold nextE; rw [hn, if_pos hbad]
    have hg := hide (get_bad (c := c) (m := 2) hn hz ho (by omega) hbad)
    clear hz ho hbad
    go_enter Try.func9, Try.ntmps9
    go_wp2_with (go_at_call 23; (with_reducible refine hg.out.mono ?_); rintro e w1 ⟨rfl, rfl⟩)
    go_ret3
    exact Nexted.wrong hE (by decide)
  obtain ⟨I, rfl⟩ := Int.eq_ofNat_of_zero_le (show 0 ≤ i by omega)
  have hI : I ≤ n := by omega
  have hEI := nextE_at (zs := zs) (I := I) (by omega)
  have hld : (zs.drop I).length = n - I := by rw [List.length_drop, hn]
  by_cases h2 : n - I < 2
  · have hE : nextE zs I = 3 := by rw [hEI]; unfold nxE; rw [hld, if_pos h2]
    have hg := hide (get_short (c := c) (m := 2) 2 rfl hn hz ho (by omega) (by omega) hI h2)
    clear hz ho hbad
    go_enter Try.func9, Try.ntmps9
    go_wp2_with (go_at_call 23; (with_reducible refine hg.out.mono ?_); rintro e w1 ⟨rfl, rfl⟩)
    go_ret3
    exact Nexted.wrong hE (by decide)
  have hg := get_ok (c := c) (m := 2) (I := I) I 2 rfl rfl hn hz ho (by omega) (by omega) (by omega)
  obtain ⟨N, hN⟩ := Int.eq_ofNat_of_zero_le (le2_bounds ho I).1
  have hN2 : N ≤ 65535 := by have := (le2_bounds ho I).2; omega
  have hNI : nxN (zs.drop I) = N := by rw [nxN_at, hN]; rfl
  rw [hN] at hg
  have hg := hide hg
  by_cases hM : May N
  · have l0 := hM.1
    have l1 := hM.2
    have hmay := hide (fun w => may_yes (N : Int) w ⟨by omega, by omega⟩)
    by_cases h3 : n < I + 2 + N + 4
    · have hE : nextE zs I = 3 := by rw [hEI]; unfold nxE; rw [hld, if_neg h2, hNI, if_neg (fun g => g hM), if_pos (by omega)]
      have t1 : decide ((n : Int) < (I : Int) + 2 + (N : Int) + 4) = true := decide_eq_true (by omega)
      clear hz ho hbad hM hN h3
      go_enter Try.func9, Try.ntmps9
      go_wp2_with (first
        | (go_at_call 23; (with_reducible refine hg.out.mono ?_); rintro e w1 ⟨rfl, rfl⟩)
        | (go_at_call 19; (with_reducible refine (hmay.out _).mono ?_); rintro e w1 ⟨rfl, rfl⟩))
      go_ret3
      exact Nexted.wrong hE (by decide)
    · have t1 : decide ((n : Int) < (I : Int) + 2 + (N : Int) + 4) = false := decide_eq_false (by omega)
      have hle4 := le4_bounds ho (I + 2 + N)
      have hg4 := get_ok (c := c) (m := 4) (I := I + 2 + N) ((I : Int) + 2 + (N : Int)) 4 (by omega) rfl hn hz ho (by omega) (by omega) (by omega)
      have hp1 := hz.part (c := c) (by omega) I (2 + N)
      have ob1 : Octets ((zs.drop I).take (2 + N)) := fun z h => ho z (List.mem_of_mem_drop (List.mem_of_mem_take h))
      have hs := sumL_bounds ob1
      have hof := of_any _ (2 + N) (c - I) _ w (by rw [List.length_take]; omega) hp1 ob1 (by omega)
      have hsE : ∀ v, sumL ((zs.drop I).take (2 + N)) = v → ((crc 0 (nats ((zs.drop I).take (2 + N))) : Nat) : Int) = v := fun v h => h
      have hq : nextE zs I = if sumL ((zs.drop I).take (2 + N)) ≠ le zs (I + 2 + N) 4 then 6 else 0 := by
        rw [hEI]; unfold nxE; rw [hld, if_neg h2, hNI, if_neg (fun g => g hM), if_neg (by omega), le_drop, Nat.add_assoc]
      have e3 : I + 2 + N - I = 2 + N := by omega
      have a1 : partA A c I = Option.map (fun x => x.add I) A := if_neg (by omega)
      rw [a1] at hof
      have hof : Calls Try.prog 22 #[.slice (Option.map (fun x => x.add I) A) (2 + N) (c - I)] w fun e w' => e = .returned (.int .u32 (sumL ((zs.drop I).take (2 + N)))) ∧ w = w' := hof
      have l2 : I + 2 + N + 4 ≤ n := by omega
      have hg4 := hide hg4
      by_cases hsum : sumL ((zs.drop I).take (2 + N)) = le zs (I + 2 + N) 4
      · have hE : nextE zs I = 0 := by rw [hq, if_neg (fun g => g hsum)]
        have hP : nextP zs I = (zs.drop (I + 2)).take N := by unfold nextP nxP; rw [if_pos hE, Int.toNat_natCast, hNI, List.drop_drop]
        have hT : nextT zs I = (I : Int) + 2 + (N : Int) + 4 := by unfold nextT; rw [if_pos hE, Int.toNat_natCast, hNI]; omega
        have hPl : ((zs.drop (I + 2)).take N).length = N := by rw [List.length_take, List.length_drop]; omega
        have hcl := clone_any (partA A c (I + 2)) N (c - (I + 2)) ((zs.drop (I + 2)).take N) w hPl (hz.part (c := c) (by omega) (I + 2) N) (fun h => by
          have a2 : partA A c (I + 2) = Option.map (fun x => x.add (I + 2)) A := if_neg (by omega)
          obtain ⟨b, off, e, _⟩ := hz.at_ (k := 0) (by omega)
          rw [a2, e] at h
          cases h) (by omega)
        have a2 : partA A c (I + 2) = Option.map (fun x => { block := x.block, off := x.off + (I + 1 + 1) }) A := (if_neg (by omega)).trans rfl
        rw [a2] at hcl
        unfold Nexted
        rw [hP, hT, hE, hPl]
        generalize sumL ((zs.drop I).take (2 + N)) = S at *
        generalize le zs (I + 2 + N) 4 = V at *
        generalize (zs.drop (I + 2)).take N = ys at *
        have t2 : (V != S) = false := by rw [hsum]; simp
        have hof := hide hof
        have hcl := hide hcl
        have e4 : I + 2 + N - (I + 2) = N := by omega
        clear hz ho hbad hM hN h3 hq hsum a1 a2 hp1 ob1 hsE hP hT hE
        go_enter Try.func9, Try.ntmps9
        go_wp2_with (first
          | (go_at_call 23; (with_reducible refine hg.out.mono ?_); rintro e w1 ⟨rfl, rfl⟩)
          | (go_at_call 23; (with_reducible refine hg4.out.mono ?_); rintro e w1 ⟨rfl, rfl⟩)
          | (go_at_call 22; (with_reducible refine hof.out.mono ?_); rintro e w1 ⟨rfl, rfl⟩)
          | (go_at_call 20; (with_reducible refine hcl.out.mono ?_); rintro e w1 ⟨A1, c1, rfl, o1, k1⟩; have o1 := hide o1; have k1 := hide k1)
          | (go_at_call 19; (with_reducible refine (hmay.out _).mono ?_); rintro e w1 ⟨rfl, rfl⟩))
        go_ret3
        exact ⟨A1, c1, rfl, o1.out, k1.out⟩
      · have hE : nextE zs I = 6 := by rw [hq, if_pos hsum]
        generalize sumL ((zs.drop I).take (2 + N)) = S at *
        generalize le zs (I + 2 + N) 4 = V at *
        have t2 : (V != S) = true := by simp only [bne_iff_ne, ne_eq]; exact fun g => hsum g.symm
        have hof := hide hof
        clear hz ho hbad hM hN h3 hq hsum a1 hp1 ob1 hsE
        go_enter Try.func9, Try.ntmps9
        go_wp2_with (first
          | (go_at_call 23; (with_reducible refine hg.out.mono ?_); rintro e w1 ⟨rfl, rfl⟩)
          | (go_at_call 23; (with_reducible refine hg4.out.mono ?_); rintro e w1 ⟨rfl, rfl⟩)
          | (go_at_call 22; (with_reducible refine hof.out.mono ?_); rintro e w1 ⟨rfl, rfl⟩)
          | (go_at_call 19; (with_reducible refine (hmay.out _).mono ?_); rintro e w1 ⟨rfl, rfl⟩))
        go_ret3
        exact Nexted.wrong hE (by decide)
  · have hE : nextE zs I = 4 := by rw [hEI]; unfold nxE; rw [hld, if_neg h2, hNI, if_pos hM]
    have hmay := hide (fun w => may_no (N : Int) w (fun h => hM ⟨by omega, by omega⟩))
    clear hz ho hbad hM hN
    go_enter Try.func9, Try.ntmps9
    go_wp2_with (first
      | (go_at_call 23; (with_reducible refine hg.out.mono ?_); rintro e w1 ⟨rfl, rfl⟩)
      | (go_at_call 19; (with_reducible refine (hmay.out _).mono ?_); rintro e w1 ⟨rfl, rfl⟩))
    go_ret3
    exact Nexted.wrong hE (by decide)
end Go.Proofs.Ytdmfblobmahfbaa
