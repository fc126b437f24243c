/- What Put comes to, package word's and the document's own. Conditions: the slice lies in memory and holds bytes, its length has room. -/
import Derived.Test.YtdmfblobmahfbaaRows
import Derived.Test.YtdmfblobmahfbaaLe
import Derived.Test.YtdmfblobmahfbaaSame
import Derived.LoopTactic
import Derived.Deep.DeepCutAuto
namespace Go.Proofs.Ytdmfblobmahfbaa
open Go.RowKit
set_option maxHeartbeats 1000000 in
theorem put_any (A : Option Addr) (n c : Nat) (zs : List Int) (m u : Int) (w : World) (hn : zs.length = n) (hz : Lies w A zs) (hc : A = none → c = 0) (ln : n ≤ 199999999999990) :
    Calls Try.prog 21 #[.slice A n c, .int .i64 m, .int .u64 u] w fun e w' =>
      e = .returned (.slice (some ⟨w.heap.size, 0, none⟩) (n + putM m) (n + putM m)) ∧
      w'.ownsRow w.heap.size 5 1 (.slice (some ⟨w.heap.size, 0, none⟩) (n + putM m) (n + putM m)) (n + putM m) (cellsOf (zs ++ putL u (putM m))) ∧ Below w.heap.size w w' := by
  subst hn
  obtain ⟨i0, hi, hz0, hz1, hz2⟩ := info_parts Try.info5
  go_enter Try.func21, Try.ntmps21
  go_upto_region 1 with (fail)
  go_cut [1] (fun s1 wx => s1 = .int .i64 (putM m : Nat) ∧ wx = w)
  case first =>
    go_wp2_with fail
    all_goals (go_meet; exact ⟨by unfold putM; congr 1; omega, rfl⟩)
  case rest =>
    obtain ⟨rfl, rfl⟩ := hcut
    have hM : putM m ≤ 8 := by unfold putM; omega
    go_wp2_with (at_make; refine wpList_make_own _ rfl _ _ 22 rfl wc.heap.size 5 i0 (.int .u8 0) 1 Try.underlying22 hi hz0 hz1 _ _ _ (zs.length + putM m) rfl rfl (by omega) ?b2 ?b3 (Nat.le_refl _) ?_)
    case b2 => rw [hz2]; omega
    case b3 => unfold maxLen; omega
    intro w0 hown0 hgrow0
    have hb0 : Below wc.heap.size wc w0 := (Below.refl _ _).grown hgrow0 (Nat.le_refl _) (fun k h => by cases h)
    have hz0' := hide (hz.below hb0)
    go_wp2_with (at_builtin; refine wpList_append_fits_any _ rfl (.tmp 17) (.tmp 18) 22 rfl wc.heap.size 5 i0 1 Try.underlying22 hi hz1 wc.heap.size 0 (zs.length + putM m) [] rfl hown0 A zs.length c (cellsOf zs) rfl ?d1 ?d2 ?d3 cellsOf_one (by omega) ?_)
    case d1 => rw [length_cellsOf]; omega
    case d2 => intro h; exact ⟨Lies.nil_ hz0'.out h, hc h⟩
    case d3 =>
      rintro ad rfl j u hj
      obtain ⟨hk, _⟩ := cellsOf_some hj
      obtain ⟨b, off, e, _⟩ := hz0'.out (by omega)
      injection e with e
      subst e
      exact Lies.cells hz0'.out j u hj
    intro w1 hown1 hgrow1
    have hb1 : Below wc.heap.size wc w1 := hb0.grown hgrow1 hb0.size (fun k h => by cases h; exact Nat.le_refl _)
    clear hz0' hown0 hgrow0 hgrow1 hb0 hz
    go_wp2
    go_loopw [7, 21] (fun s i wr => ∃ k : Nat, k ≤ putM m ∧ i = .int .i64 k ∧ s = .slice (some ⟨wc.heap.size, 0, none⟩) (zs.length + k) (zs.length + putM m) ∧
        wr.ownsRow wc.heap.size 5 1 (.slice (some ⟨wc.heap.size, 0, none⟩) (zs.length + k) (zs.length + putM m)) (zs.length + k) (cellsOf (zs ++ putL u k)) ∧ Below wc.heap.size wc wr) (fun _ i _ => putM m - (intOf i).toNat)
    case atStart => exact ⟨0, by omega, rfl, rfl, by simpa [putL] using hown1, hb1⟩
    case round =>
      clear hown1 hb1
      obtain ⟨k, hk, rfl, rfl, hown, hb⟩ := hrel
      by_cases hlt : k < putM m
      · go_wp2_with (at_builtin; refine wpList_append_fits _ rfl (.tmp 24) (.tmp 30) 22 rfl wc.heap.size 5 i0 1 Try.underlying22 hi hz1 wc.heap.size (zs.length + k) (zs.length + putM m) _ rfl (hown.alloc _) ⟨wr.heap.size, 0, none⟩ 1 1 [.int .u8 (u / 256 ^ k % 256)] rfl rfl (by rw [← byte_of, Nat.mul_comm 8 k]; exact cell_one_new _ _ _) (by intro v hv; simp at hv; subst hv; rfl) (by omega) ?_)
        intro w2 hown2 hgrow2
        have hb2 : Below wc.heap.size wc w2 := (hb.alloc hb.size _).grown hgrow2 (by simp; have := hb.size; omega) (fun k hk => by cases hk; exact Nat.le_refl _)
        clear hgrow2 hb hown
        go_wp2
        go_roundw
        case rel => exact ⟨k + 1, by omega, by go_num, rfl, by rw [putL_succ, ← List.append_assoc, cellsOf_append]; exact hown2, hb2⟩
        case measure => simp [intOf]; omega
      · obtain rfl : k = putM m := by omega
        go_wp2
        go_ret
        exact ⟨rfl, hown, hb⟩
set_option maxHeartbeats 1000000 in
theorem rput_any (A : Option Addr) (n c : Nat) (zs : List Int) (m u : Int) (w : World) (hn : zs.length = n) (hz : Lies w A zs) (hc : A = none → c = 0) (ln : n ≤ 199999999999990) :
    Calls Try.prog 26 #[.slice A n c, .int .i64 m, .int .u64 u] w fun e w' =>
      ∃ v, e = .returned v ∧ w'.ownsRow w.heap.size 5 1 v (n + putM m) (cellsOf (zs ++ putL u (putM m))) ∧ Below w.heap.size w w' := by
  subst hn
  have hM : putM m ≤ 8 := by unfold putM; omega
  obtain ⟨i0, hi, hz0, hz1, hz2⟩ := info_parts Try.info5
  have hc' := hide hc
  clear hc
  have hown := World.ownsRow_lit (base := w.heap.size) (e := 5) (size := 1) w #[] 0 (Nat.le_refl _) (by unfold maxLen; omega) rfl
  have hz' := hide (hz.alloc (.cells #[] 5))
  go_enter Try.func26, Try.ntmps26
  go_wp2_with (at_builtin; refine wpList_append_lies rfl (.tmp 9) (.tmp 10) 22 rfl w.heap.size 5 i0 _ Try.underlying22 hi hz0 hz1 hz2 rfl _ 0 [] rfl hown A zs.length c zs rfl rfl hc'.out hz'.out (by omega) (by simp) ?_)
  intro v1 w1 hown1 hb1
  have hb1' : Below w.heap.size w w1 := ((Below.refl _ _).alloc (Nat.le_refl _) _).trans hb1
  clear hb1 hown hz' hz hc'
  go_wp2
  go_loopw [7, 8] (fun s i wr => ∃ k : Nat, k ≤ putM m ∧ i = .int .i64 k ∧ wr.ownsRow w.heap.size 5 1 s (zs.length + k) (cellsOf (zs ++ putL u k)) ∧ Below w.heap.size w wr) (fun _ i _ => putM m - (intOf i).toNat)
  case atStart => exact ⟨0, by omega, rfl, by simpa [putL] using hown1, hb1'⟩
  case round =>
    clear hown1 hb1'
    obtain ⟨k, hk, rfl, hown, hb⟩ := hrel
    by_cases hlt : k < putM m
    · have hk1 : (k : Int) < m := by unfold putM at hlt; omega
      have hk2 : (k : Int) < 8 := by omega
      go_wp2_with (at_builtin; refine wpList_append_lies rfl (.tmp 21) (.tmp 27) 22 rfl w.heap.size 5 i0 _ Try.underlying22 hi hz0 hz1 hz2 rfl _ (zs.length + k) (zs ++ putL u k) rfl (hown.alloc _) (some ⟨wr.heap.size, 0, none⟩) 1 1 [u / 256 ^ k % 256] rfl rfl (by intro h; cases h) (by rw [← byte_of]; exact lies_one _ _ _) (by omega) (by have := hb.size; simp; omega) ?_)
      intro v2 w2 hown2 hb2
      have hb2' : Below w.heap.size w w2 := (hb.alloc hb.size _).trans hb2
      clear hb2 hb hown
      go_wp2
      go_roundw
      case rel => exact ⟨k + 1, by omega, by go_num, by rw [putL_succ]; exact hown2, hb2'⟩
      case measure => simp [intOf]; omega
    · obtain rfl : k = putM m := by omega
      by_cases hk1 : (putM m : Int) < m
      · have hk2 : ¬ (putM m : Int) < 8 := by unfold putM at *; omega
        go_wp2
        go_ret
        exact ⟨_, rfl, hown, hb⟩
      · go_wp2
        go_ret
        exact ⟨_, rfl, hown, hb⟩
end Go.Proofs.Ytdmfblobmahfbaa
