/- FrameRuns returns true, and leaves what was there. No condition. -/
import Derived.Test.YtdmfblobmahfbaaFnx
import Derived.Test.YtdmfblobmahfbaaRoom
import Derived.Laws.BytesArg
import Derived.Lib.SlBytesConst
namespace Go.Proofs.Ytdmfblobmahfbaa
open Go.RowKit
/-- The text of these bytes. -/
def strOf (zs : List Int) : ByteArray := ⟨(zs.map fun z => UInt8.ofNat z.toNat).toArray⟩
theorem conv_any {A : Option Addr} {n c : Nat} {zs : List Int} {w : World} (hn : zs.length = n) (hz : Lies w A zs) :
    (convert 22 9 (.slice A n c)).run Try.prog w = .ok (.string (strOf zs)) w := by
  subst hn
  rcases Nat.eq_zero_or_pos zs.length with h0 | h0
  · have : zs = [] := List.eq_nil_of_length_eq_zero h0
    subst this
    rcases A with _ | ad
    · exact run_convert_bytes_nil w 22 5 Try.underlying22 Try.underlying5 _ _ 9 Try.underlying9
    · rw [run_convert_bytes_string w 22 9 5 _ _ c Try.underlying22 Try.underlying5 Try.underlying9]
      have hl := run_loadCells_list (P := Try.prog) w ad [] (fun j v hj => by simp at hj)
      exact run_bytesToString w ad 0 c [] hl
  · obtain ⟨b, off, rfl, _, hc⟩ := hz h0
    exact run_convert_bytes_arg w 22 5 Try.underlying22 Try.underlying5 b off zs.length c zs rfl hc 9 Try.underlying9
/-- The frame of "ab". -/
def yb : List Int := [2, 0, 97, 98, 5, 77, 23, 84]
theorem yb_is : putF [] [97, 98] = yb := by decide +kernel
theorem octets_yb : Octets yb := by unfold Octets; decide +kernel
theorem put_run (w : World) (fr : Nat × Nat) : Calls Try.prog 8 #[.slice none 0 0, .slice (some ⟨w.heap.size, 0, none⟩) 2 2] (w.alloc (.cells #[.int .u8 97, .int .u8 98] 5 fr)) fun e w' =>
    ∃ A c, e = .returned (.slice A 8 c) ∧ 8 ≤ c ∧ Lies w' A yb ∧ Below w.heap.size w w' := by
  have h := fput_any none 0 0 [] (some ⟨w.heap.size, 0, none⟩) 2 2 [97, 98] (w.alloc (.cells #[.int .u8 97, .int .u8 98] 5 fr)) rfl Lies.none_ (fun _ => rfl) (by omega) rfl (lies_lit w [97, 98] 5 fr) (fun h => by cases h) (by unfold Octets; decide)
  rw [yb_is] at h
  exact h.mono fun e w' ⟨A, c, he, ho, hb⟩ => ⟨A, c, he, (own_len ho).2, Lies.of_own ho, kept_trans (kept_alloc (kept_refl w) _) hb⟩
theorem next_run {A : Option Addr} {c : Nat} {w : World} (hl : Lies w A yb) (hc : 8 ≤ c) : Calls Try.prog 9 #[.slice A 8 c, .int .i64 0] w fun e w' =>
    ∃ A c, e = .returned (.tuple #[.slice A 2 c, .int .i64 8, .int .i64 0]) ∧ Lies w' A [97, 98] ∧ Below w.heap.size w w' := by
  have h := fnext_any A 8 c yb 0 w rfl hl hc octets_yb (by omega) (by omega)
  unfold Nexted at h
  rw [show nextP yb 0 = [97, 98] by decide +kernel, show nextT yb 0 = 8 by decide +kernel, show nextE yb 0 = 0 by decide +kernel] at h
  exact h.mono fun e w' ⟨A, c, he, ho, hb⟩ => ⟨A, c, he, Lies.of_own ho, hb⟩
theorem next_zero {A : Option Addr} {c : Nat} {w : World} (hl : Lies w A [0, 0, 0, 0]) (hc : 4 ≤ c) : Calls Try.prog 9 #[.slice A 4 c, .int .i64 0] w fun e w' =>
    ∃ A c, e = .returned (.tuple #[.slice A 0 c, .int .i64 0, .int .i64 4]) ∧ Below w.heap.size w w' := by
  have h := fnext_any A 4 c [0, 0, 0, 0] 0 w rfl hl hc (by unfold Octets; decide) (by omega) (by omega)
  unfold Nexted at h
  rw [show nextP [0, 0, 0, 0] 0 = [] by decide +kernel, show nextT [0, 0, 0, 0] 0 = 0 by decide +kernel, show nextE [0, 0, 0, 0] 0 = 4 by decide +kernel] at h
  exact h.mono fun e w' ⟨A, c, he, ho, hb⟩ => ⟨A, c, he, hb⟩
theorem next_cut {A : Option Addr} {c : Nat} {w : World} (hl : Lies w A yb) (hc : 8 ≤ c) : Calls Try.prog 9 #[.slice A 7 c, .int .i64 0] w fun e w' =>
    ∃ A c, e = .returned (.tuple #[.slice A 0 c, .int .i64 0, .int .i64 3]) ∧ Below w.heap.size w w' := by
  have h := fnext_any A 7 c (yb.take 7) 0 w rfl (hl.take 7) (by omega) (fun z hz => octets_yb z (List.mem_of_mem_take hz)) (by omega) (by omega)
  unfold Nexted at h
  rw [show nextP (yb.take 7) 0 = [] by decide +kernel, show nextT (yb.take 7) 0 = 0 by decide +kernel, show nextE (yb.take 7) 0 = 3 by decide +kernel] at h
  exact h.mono fun e w' ⟨A, c, he, ho, hb⟩ => ⟨A, c, he, hb⟩
theorem next_zero' (w : World) : Calls Try.prog 9 #[.slice (some ⟨w.heap.size, 0, none⟩) 4 4, .int .i64 0] (w.alloc (.cells #[.int .u8 0, .int .u8 0, .int .u8 0, .int .u8 0] 5)) fun e w' =>
    ∃ A c, e = .returned (.tuple #[.slice A 0 c, .int .i64 0, .int .i64 4]) ∧ Below w.heap.size w w' :=
  (next_zero (lies_lit w [0, 0, 0, 0] 5 (0, 0)) (Nat.le_refl _)).mono fun _ _ ⟨A, c, he, hb⟩ => ⟨A, c, he, kept_trans (kept_alloc (kept_refl w) _) hb⟩
theorem make4 (u : World) : (Instr.makeSlice 22 (.int .i64 4) (.int .i64 4)).run Try.prog u = .ok (.slice (some ⟨u.heap.size, 0, none⟩) 4 4) (u.alloc (.cells #[.int .u8 0, .int .u8 0, .int .u8 0, .int .u8 0] 5)) := by
  obtain ⟨i0, hi, hz0, hz1, hz2⟩ := info_parts Try.info5
  have h := run_make (P := Try.prog) u 22 5 i0 (.int .u8 0) Try.underlying22 hi hz0 .i64 .i64 4 4 (by omega) (Int.le_refl _) (by rw [hz2]; omega) (by omega)
  have e : madeCells (Value.int .u8 0).cells (Int.toNat 4 * 1) = #[.int .u8 0, .int .u8 0, .int .u8 0, .int .u8 0] := by
    have h1 : (madeCells #[Value.int .u8 0] 4).toList.toArray = (cellsOf (pad 4 0)).toArray := by rw [zeros_cells]
    rw [Array.toArray_toList] at h1
    exact h1
  rw [hz1, e] at h
  exact h
theorem str_ab : strOf [97, 98] = ⟨#[97, 98]⟩ := rfl
set_option maxHeartbeats 1000000 in
theorem runs_any (w : World) : Calls Try.prog 3 #[] w fun e w' => e = .returned (.bool true) ∧ Below w.heap.size w w' := by
  have kc := fun (w : World) (C : Array Value) (n c : Nat) => Lib.run_convert_bytes_const (P := Try.prog) w 22 5 C n c Try.underlying22 Try.underlying5
  have hmk := make4
  go_enter Try.func3, Try.ntmps3
  go_wp2_with (first
    | (go_at_call 8; (with_reducible refine (put_run _ _).mono ?_); rintro e w1 ⟨A1, c1, rfl, hc1, hl1, k1⟩; have hl1' := hide hl1; have k1' := hide k1; clear hl1 k1)
    | (go_at_call 9; (with_reducible refine (next_run hl1'.out hc1).mono ?_); rintro e w2 ⟨A2, c2, rfl, hl2, k2⟩; have hl1b := hide (hl1'.out.below k2); have hl2' := hide hl2; have k2' := hide (kept_trans k1'.out k2); clear hl2 k2 hl1' k1')
    | (go_at_call 9; (with_reducible refine (next_zero' w2).mono ?_); rintro e w3 ⟨A3, c3, rfl, k3⟩; have k23 := k3; have hl1c := hide (hl1b.out.below k23); have hl2b := hide (hl2'.out.below k23); have k3' := hide (kept_trans k2'.out k23); clear k3 k23 hl1b hl2' k2')
    | (go_at_call 9; (with_reducible refine (next_cut hl1c.out hc1).mono ?_); rintro e w4 ⟨A4, c4, rfl, k4⟩; have hcv := conv_any (n := 2) (c := c2) rfl (hl2b.out.below k4); rw [str_ab] at hcv; have k4' := hide (kept_trans k3'.out k4); clear k4 hl1c hl2b k3'))
  go_ret
  exact ⟨rfl, k4'.out⟩
end Go.Proofs.Ytdmfblobmahfbaa
