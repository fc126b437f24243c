/- What lists comes to: are two lists of lists of bytes the same. Conditions: they lie in memory, their lengths have room. -/
import Derived.Test.YtdmfblobmahfbaaScn
import Derived.BigQuiet
import Derived.Deep.QuietTactic
namespace Go.Proofs.Ytdmfblobmahfbaa
open Go.RowKit
theorem ext_get {L M : List (List Int)} (hl : L.length = M.length) (h : ∀ j, j < L.length → L.getD j [] = M.getD j []) : L = M := by
  apply List.ext_getElem hl
  intro k h1 h2
  have := h k h1
  rwa [List.getD_eq_getElem?_getD, List.getD_eq_getElem?_getD, List.getElem?_eq_getElem h1, List.getElem?_eq_getElem h2] at this
theorem get_some {L : List (List Int)} {j : Nat} (h : j < L.length) : L[j]? = some (L.getD j []) := by
  rw [List.getD_eq_getElem?_getD, List.getElem?_eq_getElem h]; rfl
set_option maxHeartbeats 400000 in
theorem lists_any (A B : Option Addr) (n m c d : Nat) (L M : List (List Int)) (w : World) (hn : L.length = n) (hm : M.length = m) (hL : PartsL w A L) (hM : PartsL w B M) (hc : n ≤ c) (hd : m ≤ d) (ln : n ≤ 4611686018427387904) (lm : m ≤ 4611686018427387904)
    (sl : ∀ p ∈ L, p.length ≤ 4611686018427387904) (sm : ∀ p ∈ M, p.length ≤ 4611686018427387904) :
    Calls Try.prog 16 #[.slice A n c, .slice B m d] w fun e w' => e = .returned (.bool (decide (L = M))) ∧ ∃ q, w' = w.drewN q := by
  subst hn hm
  by_cases hl : L.length = M.length
  · have hb : ((L.length : Int) != (M.length : Int)) = false := by rw [hl]; simp
    have HL := hide hl
    have l1 : L.length ≤ M.length := by omega
    have l2 : M.length ≤ L.length := by omega
    have hL := hide hL
    have hM := hide hM
    clear hl
    go_enter Try.func16, Try.ntmps16
    go_wp2
    go_loopw [5] (fun i wr => ∃ k q : Nat, k ≤ L.length ∧ i = .int .i64 k ∧ Hid (wr = w.drewN q) ∧ Hid (∀ j, j < k → L.getD j [] = M.getD j [])) (fun i _ => L.length - (intOf i).toNat)
    case atStart => exact ⟨0, 0, by omega, rfl, rfl, fun j hj => absurd hj (by omega)⟩
    case round =>
      obtain ⟨k, q, hk, rfl, hw, hs⟩ := hrel
      by_cases hlt : k < L.length
      · have hk1 := get_some hlt
        have hk2 := get_some (L := M) (j := k) (by omega)
        have p1 := sl _ (List.mem_of_getElem? hk1)
        have p2 := sm _ (List.mem_of_getElem? hk2)
        obtain ⟨b1, o1, rfl, _, A1, c1, e1, z1⟩ := hL.out k _ hk1
        obtain ⟨b2, o2, rfl, _, A2, c2, e2, z2⟩ := hM.out k _ hk2
        have ew := hw.out
        have e1 : wr.cell? ⟨b1, o1 + k, none⟩ = some (.slice A1 (L.getD k []).length c1) := by rw [ew]; exact e1
        have e2 : wr.cell? ⟨b2, o2 + k, none⟩ = some (.slice A2 (M.getD k []).length c2) := by rw [ew]; exact e2
        have z1 : Lies wr A1 (L.getD k []) := by rw [ew]; exact z1
        have z2 : Lies wr A2 (M.getD k []) := by rw [ew]; exact z2
        clear ew hk1 hk2
        by_cases he : L.getD k [] = M.getD k []
        · have hq : ∀ q, Calls Try.prog 14 #[.slice A1 (L.getD k []).length c1, .slice A2 (M.getD k []).length c2] (wr.drewN q) fun x w' => x = .returned (.bool true) ∧ ∃ m, w' = wr.drewN m := fun q => by
            have h := same_any A1 A2 _ _ c1 c2 _ _ (wr.drewN q) rfl rfl (z1.drewN q) (z2.drewN q) p1 p2
            rw [decide_eq_true he] at h
            exact h.mono fun _ _ ⟨h1, m, h2⟩ => ⟨h1, q + m, by rw [h2]; exact World.drewN_drewN _ _ _⟩
          have hq := hide hq
          have HE := hide he
          clear he z1 z2 p1 p2
          generalize (L.getD k []).length = x1 at *
          generalize (M.getD k []).length = x2 at *
          go_wp2
          go_quiet ((go_at_call 14; exact hq.out _))
          go_wp2
          go_roundw
          case rel => exact ⟨k + 1, _, by omega, by go_num, by rw [hw.out]; exact World.drewN_drewN _ _ _, fun j hj => by
            rcases Nat.lt_or_ge j k with h1 | h1
            · exact hs.out j h1
            · obtain rfl : j = k := by omega
              exact HE.out⟩
          case measure => simp [intOf]; omega
        · have hq : ∀ q, Calls Try.prog 14 #[.slice A1 (L.getD k []).length c1, .slice A2 (M.getD k []).length c2] (wr.drewN q) fun x w' => x = .returned (.bool false) ∧ ∃ m, w' = wr.drewN m := fun q => by
            have h := same_any A1 A2 _ _ c1 c2 _ _ (wr.drewN q) rfl rfl (z1.drewN q) (z2.drewN q) p1 p2
            rw [decide_eq_false he] at h
            exact h.mono fun _ _ ⟨h1, m, h2⟩ => ⟨h1, q + m, by rw [h2]; exact World.drewN_drewN _ _ _⟩
          have hq := hide hq
          have HE := hide he
          clear he z1 z2 p1 p2
          generalize (L.getD k []).length = x1 at *
          generalize (M.getD k []).length = x2 at *
          go_wp2
          go_quiet ((go_at_call 14; exact hq.out _))
          go_wp2
          go_ret
          exact ⟨ret_bool (by symm; rw [decide_eq_false_iff_not]; rintro rfl; exact HE.out rfl), _, by rw [hw.out]; exact World.drewN_drewN _ _ _⟩
      · go_wp2
        go_ret
        exact ⟨ret_bool (by symm; rw [decide_eq_true_iff]; exact ext_get HL.out (fun j hj => hs.out j (by omega))), _, hw.out⟩
  · have hb : ((L.length : Int) != (M.length : Int)) = true := by simp; omega
    have HL := hide hl
    clear hl hL hM
    go_enter Try.func16, Try.ntmps16
    go_wp2
    go_ret
    exact ⟨ret_bool (by symm; rw [decide_eq_false_iff_not]; intro h; exact HL.out (by rw [h])), 0, rfl⟩
end Go.Proofs.Ytdmfblobmahfbaa
