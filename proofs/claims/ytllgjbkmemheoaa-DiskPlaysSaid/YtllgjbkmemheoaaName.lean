/- May a file have that name: the program's, the document's, the law's own. Condition: the text has room. -/
import Derived.Test.YtllgjbkmemheoaaPure
import Derived.Test.YtllgjbkmemheoaaProg
import Derived.WalkKit
import Derived.WalkSpells
import Derived.WalkLawsBesides
import Derived.LoopTactic
namespace Go.Proofs.Ytllgjbkmemheoaa
open Go.RowKit
/-- May byte k stand in a name. -/
def okAt (s : ByteArray) (k : Nat) : Prop := ∀ h : k < s.size, 33 ≤ (s[k].toNat : Int) ∧ (s[k].toNat : Int) ≤ 126
theorem all_ok (s : ByteArray) : (s.data.toList.all fun c => 33 ≤ c && c ≤ 126) = true ↔ ∀ k, k < s.size → okAt s k := by
  rw [List.all_eq_true]
  constructor
  · intro h k hk _
    have := h (s[k]) (by show s.data[k] ∈ s.data.toList; exact Array.getElem_mem_toList hk)
    simp [UInt8.le_iff_toNat_le] at this
    omega
  · intro h c hc
    obtain ⟨k, hk, rfl⟩ := List.getElem_of_mem hc
    rw [Array.length_toList] at hk
    have := h k hk hk
    simp [UInt8.le_iff_toNat_le]
    have e : s[k] = s.data[k] := rfl
    rw [e] at this
    omega
theorem name_yes {s : ByteArray} (h0 : 1 ≤ s.size) (h1 : s.size ≤ 24) (h : ∀ k, k < s.size → okAt s k) : nameB s = true := by
  unfold nameB; rw [(all_ok s).2 h]; simp [h0, h1]
theorem name_no {s : ByteArray} {k : Nat} (hk : k < s.size) (h : ¬ okAt s k) : nameB s = false := by
  unfold nameB
  have : (s.data.toList.all fun c => 33 ≤ c && c ≤ 126) = false := by
    cases hc : (s.data.toList.all fun c => 33 ≤ c && c ≤ 126)
    · rfl
    · exact absurd ((all_ok s).1 hc k hk) h
  rw [this]; simp
theorem name_size {s : ByteArray} (h : nameB s = true) : 1 ≤ s.size ∧ s.size ≤ 24 := by
  unfold nameB at h; simp at h; exact ⟨h.1, h.2.1⟩
set_option maxHeartbeats 1000000 in
theorem mayBe_any (s : ByteArray) (w : World) (hs : s.size ≤ 140737488351232) : Calls Try.prog 29 #[.string s] w fun e w' => e = .returned (.bool (nameB s)) ∧ w = w' := by
  by_cases h0 : s.size < 1
  · have hn := hide (show nameB s = false from by unfold nameB; simp; omega)
    go_enter Try.func29, Try.ntmps29
    go_wp2
    go_ret
    exact ⟨ret_bool hn.out.symm, rfl⟩
  by_cases h1 : 24 < s.size
  · have hn := hide (show nameB s = false from by unfold nameB; simp; omega)
    go_enter Try.func29, Try.ntmps29
    go_wp2
    go_ret
    exact ⟨ret_bool hn.out.symm, rfl⟩
  go_enter Try.func29, Try.ntmps29
  go_wp2
  go_loop [14] (fun i => ∃ k : Nat, k ≤ s.size ∧ i = .int .i64 k ∧ Hid (∀ j, j < k → okAt s j)) (fun i => s.size - (intOf i).toNat)
  case atStart => exact ⟨0, by omega, rfl, fun j hj => absurd hj (by omega)⟩
  case round =>
    obtain ⟨k, hk, rfl, hs⟩ := hrel
    by_cases hlt : k < s.size
    · by_cases hc : okAt s k
      · have hc' := hc hlt
        have HC := hide hc
        have HS := hide (show ∀ j, j < k + 1 → okAt s j from fun j hj => by
          rcases Nat.lt_or_ge j k with h | h
          · exact hs.out j h
          · obtain rfl : j = k := by omega
            exact HC.out)
        obtain ⟨hc1, hc2⟩ := hc'
        clear hc HC hs
        go_wp2
        go_round
        case rel => exact ⟨k + 1, by omega, by go_num, HS⟩
        case measure => simp [intOf]; omega
      · have hn := hide (name_no hlt hc)
        have hc' : (s[k].toNat : Int) < 33 ∨ 126 < (s[k].toNat : Int) := by
          rcases Int.lt_or_le (s[k].toNat : Int) 33 with h | h
          · exact .inl h
          · right
            rcases Int.lt_or_le 126 (s[k].toNat : Int) with h2 | h2
            · exact h2
            · exact absurd (fun _ => ⟨h, h2⟩) hc
        clear hc hs
        rcases hc' with hc' | hc'
        · go_wp2
          go_ret
          exact ⟨ret_bool hn.out.symm, rfl⟩
        · go_wp2
          all_goals
            go_ret
            exact ⟨ret_bool hn.out.symm, rfl⟩
    · have hn := hide (name_yes (s := s) (by omega) (by omega) (fun j hj => hs.out j (by omega)))
      go_wp2
      go_ret
      exact ⟨ret_bool hn.out.symm, rfl⟩
end Go.Proofs.Ytllgjbkmemheoaa
