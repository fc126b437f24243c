/- What the document's Next comes to. Conditions: the slice lies in memory and holds bytes, its length has room. -/
import Derived.Test.YtdmfblobmahfbaaFnx
namespace Go.Proofs.Ytdmfblobmahfbaa
open Go.RowKit
theorem rget_ok {A : Option Addr} {n c : Nat} {zs : List Int} {w : World} {I m : Nat} (J M : Int) (hJ : J = I) (hM : M = m) (hn : zs.length = n) (hz : Lies w A zs) (ho : Octets zs) (ln : n ≤ 199999999999990) (hm : 1 ≤ m ∧ m ≤ 8) (h : I + m ≤ n) :
    Calls Try.prog 24 #[.slice A n c, .int .i64 J, .int .i64 M] w fun e w' => e = .returned (.tuple #[.int .u64 (le zs I m), .int .i64 0]) ∧ w = w' := by
  subst hM hJ
  have hb : ¬ GetBad zs (I : Int) (m : Int) := by unfold GetBad; rw [hn]; omega
  have h1 : ¬ (zs.length : Int) - (I : Int) < (m : Int) := by omega
  have h0 := rget_any A n c zs I m w hn hz ho (by omega)
  unfold getV getE at h0
  rwa [if_neg hb, if_neg hb, if_neg h1, if_neg h1, Int.toNat_natCast, Int.toNat_natCast] at h0
set_option maxHeartbeats 1000000 in
theorem rnext_any (A : Option Addr) (n c : Nat) (zs : List Int) (i : Int) (w : World) (hn : zs.length = n) (hz : Lies w A zs) (hc : n ≤ c) (ho : Octets zs) (ln : n ≤ 199999999900000) (hi : -9223372036854775808 ≤ i ∧ i ≤ 9223372036854775807) :
    Calls Try.prog 11 #[.slice A n c, .int .i64 i] w (Nexted w zs i) := by
  by_cases hi0 : i < 0
  · have hE : nextE zs i = 1 := by unfold nextE; rw [if_pos (.inl hi0)]
    have t1 : decide (i < 0) = true := decide_eq_true hi0
    clear hz ho
    go_enter Try.func11, Try.ntmps11
    go_wp2
    go_ret3
    exact Nexted.wrong hE (by decide)
  by_cases hi1 : (n : Int) < i
  · have hE : nextE zs i = 1 := by unfold nextE; rw [hn, if_pos (.inr hi1)]
    have t1 : decide (i < 0) = false := decide_eq_false hi0
    have t2 : decide ((n : Int) < i) = true := decide_eq_true hi1
    clear hz ho
    go_enter Try.func11, Try.ntmps11
    go_wp2
    go_ret3
    exact Nexted.wrong hE (by decide)
  obtain ⟨I, rfl⟩ := Int.eq_ofNat_of_zero_le (show 0 ≤ i by omega)
  have hI : I ≤ n := by omega
  have hEI := nextE_at (zs := zs) (I := I) (by omega)
  have hld : (zs.drop I).length = n - I := by rw [List.length_drop, hn]
  have t1 : decide ((I : Int) < 0) = false := decide_eq_false hi0
  have t2 : decide ((n : Int) < (I : Int)) = false := decide_eq_false hi1
  clear hi0 hi1
  by_cases h2 : n - I < 2
  · have hE : nextE zs I = 3 := by rw [hEI]; unfold nxE; rw [hld, if_pos h2]
    have t3 : decide ((n : Int) - (I : Int) < 2) = true := decide_eq_true (by omega)
    clear hz ho
    go_enter Try.func11, Try.ntmps11
    go_wp2
    go_ret3
    exact Nexted.wrong hE (by decide)
  have t3 : decide ((n : Int) - (I : Int) < 2) = false := decide_eq_false (by omega)
  have hg := rget_ok (c := c) (m := 2) (I := I) I 2 rfl rfl hn hz ho (by omega) (by omega) (by omega)
  obtain ⟨N, hN⟩ := Int.eq_ofNat_of_zero_le (le2_bounds ho I).1
  have hN2 : N ≤ 65535 := by have := (le2_bounds ho I).2; omega
  have hNI : nxN (zs.drop I) = N := by rw [nxN_at, hN]; rfl
  rw [hN] at hg
  have hg := hide hg
  by_cases hM : May N
  · have l0 := hM.1
    have l1 := hM.2
    have t4 : ((N : Int) == 0) = false := by rw [beq_eq_false_iff_ne]; omega
    have t5 : decide ((16384 : Int) < (N : Int)) = false := decide_eq_false (by omega)
    by_cases h3 : n < I + 2 + N + 4
    · have hE : nextE zs I = 3 := by rw [hEI]; unfold nxE; rw [hld, if_neg h2, hNI, if_neg (fun g => g hM), if_pos (by omega)]
      have t6 : decide ((n : Int) - (I : Int) < (N : Int) + 6) = true := decide_eq_true (by omega)
      clear hz ho hM hN h3
      go_enter Try.func11, Try.ntmps11
      go_wp2_with (first
        | (go_at_call 24; (with_reducible refine hg.out.mono ?_); rintro e w1 ⟨rfl, rfl⟩))
      go_ret3
      exact Nexted.wrong hE (by decide)
    · have t6 : decide ((n : Int) - (I : Int) < (N : Int) + 6) = false := decide_eq_false (by omega)
      have hle4 := le4_bounds ho (I + 2 + N)
      have hg4 := rget_ok (c := c) (m := 4) (I := I + 2 + N) ((I : Int) + 2 + (N : Int)) 4 (by omega) rfl hn hz ho (by omega) (by omega) (by omega)
      have hp1 := hz.part (c := c) (by omega) I (2 + N)
      have ob1 : Octets ((zs.drop I).take (2 + N)) := fun z h => ho z (List.mem_of_mem_drop (List.mem_of_mem_take h))
      have hs := sumL_bounds ob1
      have hof := ron_zero _ (2 + N) (c - I) _ w (by rw [List.length_take]; omega) hp1 ob1 (by omega)
      have hq : nextE zs I = if sumL ((zs.drop I).take (2 + N)) ≠ le zs (I + 2 + N) 4 then 6 else 0 := by
        rw [hEI]; unfold nxE; rw [hld, if_neg h2, hNI, if_neg (fun g => g hM), if_neg (by omega), le_drop, Nat.add_assoc]
      have e3 : I + 2 + N - I = 2 + N := by omega
      have a1 : partA A c I = Option.map (fun x => x.add I) A := if_neg (by omega)
      rw [a1] at hof
      have hof : Calls Try.prog 25 #[.int .u32 0, .slice (Option.map (fun x => x.add I) A) (2 + N) (c - I)] w fun e w' => e = .returned (.int .u32 (sumL ((zs.drop I).take (2 + N)))) ∧ w = w' := hof
      have l2 : I + 2 + N + 4 ≤ n := by omega
      have hg4 := hide hg4
      by_cases hsum : sumL ((zs.drop I).take (2 + N)) = le zs (I + 2 + N) 4
      · have hE : nextE zs I = 0 := by rw [hq, if_neg (fun g => g hsum)]
        have hP : nextP zs I = (zs.drop (I + 2)).take N := by unfold nextP nxP; rw [if_pos hE, Int.toNat_natCast, hNI, List.drop_drop]
        have hT : nextT zs I = (I : Int) + 6 + (N : Int) := by unfold nextT; rw [if_pos hE, Int.toNat_natCast, hNI]; omega
        have hPl : ((zs.drop (I + 2)).take N).length = N := by rw [List.length_take, List.length_drop]; omega
        have hlp := hz.part (c := c) (by omega) (I + 2) N
        have hnn : partA A c (I + 2) = none → c - (I + 2) = 0 := (fun h => by
          have a2 : partA A c (I + 2) = Option.map (fun x => x.add (I + 2)) A := if_neg (by omega)
          obtain ⟨b, off, e, _⟩ := hz.at_ (k := 0) (by omega)
          rw [a2, e] at h
          cases h)
        have a2 : partA A c (I + 2) = Option.map (fun x => { block := x.block, off := x.off + (I + 1 + 1) }) A := (if_neg (by omega)).trans rfl
        rw [a2] at hlp hnn
        unfold Nexted
        rw [hP, hT, hE, hPl]
        generalize sumL ((zs.drop I).take (2 + N)) = S at *
        generalize le zs (I + 2 + N) 4 = V at *
        generalize (zs.drop (I + 2)).take N = ys at *
        have t7 : (S != V) = false := by rw [hsum]; simp
        have hof := hide hof
        obtain ⟨i0, hi, hz0, hz1, hz2⟩ := info_parts Try.info5
        have hown0 := World.ownsRow_lit (base := w.heap.size) (e := 5) (size := 1) w #[] 0 (Nat.le_refl _) (by unfold maxLen; omega) rfl
        have hz' := hide (hlp.alloc (.cells #[] 5))
        have hnn := hide hnn
        have e4 : I + 2 + N - (I + 2) = N := by omega
        clear hz ho hM hN h3 hq hsum a1 a2 hp1 ob1 hP hT hE hlp
        go_enter Try.func11, Try.ntmps11
        go_wp2_with (first
          | (go_at_call 24; (with_reducible refine hg.out.mono ?_); rintro e w1 ⟨rfl, rfl⟩)
          | (go_at_call 24; (with_reducible refine hg4.out.mono ?_); rintro e w1 ⟨rfl, rfl⟩)
          | (go_at_call 25; (with_reducible refine hof.out.mono ?_); rintro e w1 ⟨rfl, rfl⟩)
          | (at_builtin; refine wpList_append_lies rfl (.tmp 66) (.tmp 74) 22 rfl w.heap.size 5 i0 _ Try.underlying22 hi hz0 hz1 hz2 rfl _ 0 [] rfl hown0 _ (I + 2 + N - (I + 2)) (c - (I + 2)) ys rfl (by omega) hnn.out hz'.out (by omega) (by simp) ?_))
        intro v1 w1 o1 k1
        try rw [e4] at o1
        obtain ⟨A1, c1, rfl, _⟩ := own_shape o1
        have o1' := hide o1
        have k1' := hide (((Below.refl w.heap.size w).alloc (Nat.le_refl _) _).trans k1)
        clear o1 k1 hown0 hz'
        go_wp2
        go_ret3
        exact ⟨A1, c1, rfl, o1'.out, k1'.out⟩
      · have hE : nextE zs I = 6 := by rw [hq, if_pos hsum]
        generalize sumL ((zs.drop I).take (2 + N)) = S at *
        generalize le zs (I + 2 + N) 4 = V at *
        have t7 : (S != V) = true := by simp only [bne_iff_ne, ne_eq]; exact hsum
        have hof := hide hof
        clear hz ho hM hN h3 hq hsum a1 hp1 ob1
        go_enter Try.func11, Try.ntmps11
        go_wp2_with (first
          | (go_at_call 24; (with_reducible refine hg.out.mono ?_); rintro e w1 ⟨rfl, rfl⟩)
          | (go_at_call 24; (with_reducible refine hg4.out.mono ?_); rintro e w1 ⟨rfl, rfl⟩)
          | (go_at_call 25; (with_reducible refine hof.out.mono ?_); rintro e w1 ⟨rfl, rfl⟩))
        go_ret3
        exact Nexted.wrong hE (by decide)
  · have hE : nextE zs I = 4 := by rw [hEI]; unfold nxE; rw [hld, if_neg h2, hNI, if_pos hM]
    by_cases h0 : N = 0
    · subst h0
      clear hz ho hM hN
      go_enter Try.func11, Try.ntmps11
      go_wp2_with (first
        | (go_at_call 24; (with_reducible refine hg.out.mono ?_); rintro e w1 ⟨rfl, rfl⟩))
      go_ret3
      exact Nexted.wrong hE (by decide)
    · have t4 : ((N : Int) == 0) = false := by rw [beq_eq_false_iff_ne]; omega
      have t5 : decide ((16384 : Int) < (N : Int)) = true := decide_eq_true (by unfold May at hM; omega)
      clear hz ho hM hN h0
      go_enter Try.func11, Try.ntmps11
      go_wp2_with (first
        | (go_at_call 24; (with_reducible refine hg.out.mono ?_); rintro e w1 ⟨rfl, rfl⟩))
      go_ret3
      exact Nexted.wrong hE (by decide)
end Go.Proofs.Ytdmfblobmahfbaa
