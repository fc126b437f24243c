/- What few comes to: records that may be, so many at most. Conditions: they came in. -/
import Derived.Test.YtkmcnhjfnjikaaaGreatDoorCra
namespace Go.Proofs.YtkmcnhjfnjikaaaGreatDoor
open Go.RowKit Go.Maps
/-- The first j parts' records of 1 to 1500 bytes. -/
def fewL (it : Nat → Sb) (j : Nat) : List (List Int) := ((List.range j).map fun i => (it i).zs).filter fun p => decide (1 ≤ p.length) && decide (p.length ≤ 1500)
theorem fewL_succ (it : Nat → Sb) (j : Nat) : fewL it (j + 1) = fewL it j ++ if 1 ≤ (it j).zs.length ∧ (it j).zs.length ≤ 1500 then [(it j).zs] else [] := by
  unfold fewL
  rw [List.range_succ, List.map_append, List.filter_append]
  congr 1
  by_cases h : 1 ≤ (it j).zs.length ∧ (it j).zs.length ≤ 1500 <;> simp [h]
theorem fewL_len (it : Nat → Sb) (j : Nat) : (fewL it j).length ≤ j := by
  unfold fewL
  have := List.length_filter_le (fun p : List Int => decide (1 ≤ p.length) && decide (p.length ≤ 1500)) ((List.range j).map fun i => (it i).zs)
  rw [List.length_map, List.length_range] at this
  exact this
/-- What few answers. -/
def FewP (W w : World) (L : List (List Int)) (e : Ending) (w' : World) : Prop := ∃ v, e = .returned v ∧ Wnt (fun k => k < W.heap.size) w' v L ∧ (∀ k, v.ownBlock = some k → w.heap.size ≤ k) ∧ Below w.heap.size w w'
set_option maxRecDepth 100000 in
set_option maxHeartbeats 2000000 in
theorem few_any {W w : World} {A : Option Addr} {m c : Nat} {it : Nat → Sb} (h : PartsIn W A m c it) (hb : Below W.heap.size W w) : Calls Tryz.prog 32 #[.slice A m c] w (FewP W w (fewL it (min m 6))) := by
  have hP := hide h
  have hb := hide hb
  have hb0 := hide (Below.refl w.heap.size w)
  obtain ⟨i0, hi, hz0, hz1, hz2⟩ := info_parts Tryz.info31
  clear h
  go_enter Tryz.func32, Tryz.ntmps32
  go_wp2
  go_loopw [3, 4] (fun v i wr => ∃ (vv : Value) (j : Nat), vv = v ∧ i = .int .i64 j ∧ j ≤ 6 ∧ j ≤ m ∧ Hid (Wnt (fun k => k < W.heap.size) wr vv (fewL it j)) ∧ Hid (∀ k, vv.ownBlock = some k → w.heap.size ≤ k) ∧ Hid (Below w.heap.size w wr)) (fun _ i _ => 6 - (intOf i).toNat)
  case atStart => exact ⟨_, 0, rfl, rfl, by omega, by omega, (show Wnt _ _ _ [] from Wnt.nil _ _), (show ∀ k, Value.ownBlock (.slice none 0 0) = some k → _ from fun k h => by cases h), hb0⟩
  case round =>
    obtain ⟨v, j, rfl, rfl, hj, hjm, hW, hv, hbw⟩ := hrel
    by_cases hlt : j < m ∧ j < 6
    · obtain ⟨hlt1, hlt2⟩ := hlt
      have t1 : decide ((j : Int) < (m : Int)) = true := by simp; omega
      have t2 : decide (j < m) = true := by simp; omega
      have t3 : decide ((j : Int) < 6) = true := by simp; omega
      have t4 : decide (j < 6) = true := by simp; omega
      obtain ⟨b, off, rfl, hbl, hc, hin⟩ := hP.out.at_ j hlt1
      have hlow := hide (kept_trans hb.out hbw.out)
      have cw := (hlow.out.cell (p := ⟨b, off + j, none⟩) hbl).trans hc
      have hfs := fewL_succ it j
      have hj0 : j < m := hlt1
      have hj6 : j < 6 := hlt2
      have hlen := fewL_len it j
      clear hc
      generalize (it j).A = A' at *
      generalize (it j).c = c' at *
      generalize (it j).zs = zs at *
      generalize (it j).n = n at *
      have hnl := hin.len
      by_cases hok : 1 ≤ n ∧ n ≤ 1500
      · rw [if_pos (by omega)] at hfs
        have e1 : decide ((0 : Int) < (n : Int)) = true := by simp; omega
        have e2 : decide (0 < n) = true := by simp; omega
        have e3 : decide ((n : Int) ≤ 1500) = true := by simp; omega
        have e4 : decide (n ≤ 1500) = true := by simp; omega
        have hin := hide hin
        generalize fewL it j = L at *
        obtain ⟨vs, hvs, hvl⟩ := hW.out.own
        have hvs := hide hvs
        have hvl := hide hvl
        go_wp2_with (at_builtin; refine wpList_append_own_at _ rfl (.tmp 29) (.tmp 34) 27 rfl 0 31 i0 (.slice none 0 0) 1 24 Tryz.underlying27 hi hz0 hz1 hz2 rfl (by omega) _ L.length vs rfl (own_below hvs.out (below_alloc' wr _)) ⟨wr.heap.size, 0, none⟩ 1 1 [.slice A' n c'] rfl rfl (cell_one_new _ _ _) (by intro u hu; rw [List.mem_singleton] at hu; subst hu; rfl) (by unfold maxLen; omega) (by omega) (Nat.zero_le _) ?_)
        intro v2 w7 o7 k7 _ hat
        have hsz := hlow.out.size
        have hN := hide (Wnt.more (Z := fun k => k < W.heap.size) (p := zs) (A := A') (c := c') (w := wr.alloc (.cells #[.slice A' n c'] 31)) (⟨(hin.out.lies.below hlow.out).alloc _, by have := hin.out.le; omega, hin.out.nil⟩)
          (fun x hx => by
            obtain ⟨b', off', e, hlt, _⟩ := hin.out.lies (by omega)
            rw [e] at hx; injection hx with hx; subst hx
            exact ⟨hlt, by show b' < _; simp; omega⟩) hW.out.apart (fun k hk => by simp; omega)
          (fun j p hj => by
            obtain ⟨A'', c'', e, h1, h2⟩ := hvl.out j p hj
            exact ⟨A'', c'', e, h1.alloc _, fun x hx => ⟨(h2 x hx).1, by have := (h2 x hx).2; simp; omega⟩⟩)
          (by have := hvs.out.1; omega) (by rw [hnl]; exact o7) k7 (by simpa using hat))
        have hv2 := hide (show ∀ k, v2.ownBlock = some k → w.heap.size ≤ k from fun k hk => by
          rcases hat with e | e
          · exact hv.out k (by rw [← e]; exact hk)
          · rw [e] at hk; injection hk with hk; have := hbw.out.size; omega)
        have hbw2 := hide ((hbw.out.alloc hbw.out.size (.cells #[.slice A' n c'] 31)).grown k7 (by have := hbw.out.size; simp; omega) (fun k hk => hv.out k hk))
        clear o7 k7 hat hvs hvl
        go_wp2
        go_roundw
        case rel => exact ⟨v2, j + 1, rfl, by simp; try omega, by omega, by omega, by rw [hfs]; exact hN, hv2, hbw2⟩
        case measure => simp [intOf]; omega
      · rw [if_neg (by omega), List.append_nil] at hfs
        have hN := hide (show Wnt (fun k => k < W.heap.size) wr v (fewL it (j + 1)) from by rw [hfs]; exact hW.out)
        by_cases hn0 : n = 0
        · have e1 : decide ((0 : Int) < (n : Int)) = false := by simp; omega
          have e2 : decide (0 < n) = false := by simp; omega
          clear hok hn0
          go_wp2
          go_roundw
          case rel => exact ⟨v, j + 1, rfl, by simp; try omega, by omega, by omega, hN, hv, hbw⟩
          case measure => simp [intOf]; omega
        · have e1 : decide ((0 : Int) < (n : Int)) = true := by simp; omega
          have e2 : decide (0 < n) = true := by simp; omega
          have e3 : decide ((n : Int) ≤ 1500) = false := by simp; omega
          have e4 : decide (n ≤ 1500) = false := by simp; omega
          clear hok hn0
          go_wp2
          go_roundw
          case rel => exact ⟨v, j + 1, rfl, by simp; try omega, by omega, by omega, hN, hv, hbw⟩
          case measure => simp [intOf]; omega
    · have hm6 : min m 6 = j := by omega
      have hWm := hide (show Wnt (fun k => k < W.heap.size) wr v (fewL it (min m 6)) from by rw [hm6]; exact hW.out)
      by_cases hjm2 : j < m
      · have t1 : decide ((j : Int) < (m : Int)) = true := by simp; omega
        have t2 : decide (j < m) = true := by simp; omega
        have t3 : decide ((j : Int) < 6) = false := by simp; omega
        have t4 : decide (j < 6) = false := by simp; omega
        clear hlt hm6
        go_wp2
        go_ret
        exact ⟨v, rfl, hWm.out, hv.out, hbw.out⟩
      · have t1 : decide ((j : Int) < (m : Int)) = false := by simp; omega
        have t2 : decide (j < m) = false := by simp; omega
        clear hlt hm6
        go_wp2
        go_ret
        exact ⟨v, rfl, hWm.out, hv.out, hbw.out⟩
end Go.Proofs.YtkmcnhjfnjikaaaGreatDoor
