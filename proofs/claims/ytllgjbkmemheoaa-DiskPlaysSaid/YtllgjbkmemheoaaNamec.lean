/- The law's own test of a name. Condition: the text has room. -/
import Derived.Test.YtllgjbkmemheoaaRuns
import Derived.Test.YtllgjbkmemheoaaFrame
namespace Go.Proofs.Ytllgjbkmemheoaa
open Go.RowKit Go.Maps
theorem name_long {s : ByteArray} (h : 24 < s.size) : nameB s = false := by unfold nameB; simp; omega
theorem name_none {s : ByteArray} (h : s.size < 1) : nameB s = false := by unfold nameB; simp; omega
set_option maxHeartbeats 1000000 in
theorem right_any (s : ByteArray) (w : World) (hs : s.size ≤ 140737488351232) : Calls Try.prog 28 #[.string s] w fun e w' => e = .returned (.bool (nameB s)) ∧ w = w' := by
  go_enter Try.func28, Try.ntmps28
  go_wp2
  go_loop [3] (fun i => ∃ k : Nat, k ≤ s.size ∧ i = .int .i64 k ∧ Hid (∀ j, j < k → okAt s j)) (fun i => s.size - (intOf i).toNat)
  case atStart => exact ⟨0, by omega, rfl, fun j hj => absurd hj (by omega)⟩
  case round =>
    obtain ⟨k, hk, rfl, hs⟩ := hrel
    by_cases hlt : k < s.size
    · by_cases hc : okAt s k
      · have hc' := hc hlt
        have HC := hide hc
        have HS := hide (show ∀ j, j < k + 1 → okAt s j from fun j hj => by
          rcases Nat.lt_or_ge j k with h | h
          · exact hs.out j h
          · obtain rfl : j = k := by omega
            exact HC.out)
        obtain ⟨hc1, hc2⟩ := hc'
        clear hc HC hs
        go_wp2
        go_round
        case rel => exact ⟨k + 1, by omega, by go_num, HS⟩
        case measure => simp [intOf]; omega
      · have hn := hide (name_no hlt hc)
        have hc' : (s[k].toNat : Int) < 33 ∨ 126 < (s[k].toNat : Int) := by
          rcases Int.lt_or_le (s[k].toNat : Int) 33 with h | h
          · exact .inl h
          · right
            rcases Int.lt_or_le 126 (s[k].toNat : Int) with h2 | h2
            · exact h2
            · exact absurd (fun _ => ⟨h, h2⟩) hc
        clear hc hs
        rcases hc' with hc' | hc'
        · go_wp2
          go_ret
          exact ⟨ret_bool hn.out.symm, rfl⟩
        · go_wp2
          all_goals
            go_ret
            exact ⟨ret_bool hn.out.symm, rfl⟩
    · have hall := hide (show ∀ j, j < s.size → okAt s j from fun j hj => hs.out j (by omega))
      clear hs
      by_cases h0 : s.size < 1
      · have hn := hide (name_none h0)
        have he1 : s.toList = [] := by rw [ByteArray.toList_eq]; exact List.eq_nil_of_length_eq_zero (by rw [Array.length_toList]; show s.size = 0; omega)
        go_wp2
        go_ret
        exact ⟨ret_bool (by rw [hn.out]), rfl⟩
      · have he0 : s.toList.isEmpty = false := by
          rw [ByteArray.toList_eq]
          have hz : s.data.toList.length = s.size := Array.length_toList
          cases hl : s.data.toList with
          | nil => rw [hl] at hz; exact absurd (show s.size < 1 from by rw [← hz]; exact Nat.one_pos) h0
          | cons => rfl
        by_cases h1 : 24 < s.size
        · have hn := hide (name_long h1)
          go_wp2
          go_ret
          exact ⟨ret_bool (by rw [hn.out]; simp; omega), rfl⟩
        · have hn := hide (name_yes (s := s) (by omega) (by omega) hall.out)
          go_wp2
          go_ret
          exact ⟨ret_bool (by rw [hn.out]; simp; omega), rfl⟩
end Go.Proofs.Ytllgjbkmemheoaa
