/- The law's own 'rising': a beginning of the list, whose keys rise. Conditions: the list lies in memory, its length has room. -/
import Derived.Test.YtmcemijipplkgaaKw
import Derived.Test.YtmcemijipplkgaaUp
namespace Go.Proofs.Ytmcemijipplkgaa
open Go.RowKit
/-- Up to place k the keys rise. -/
def Rise (l : List Pr) (k : Nat) : Prop := ∀ j p q, j + 1 < k → l[j]? = some p → l[j + 1]? = some q → ltB p.k q.k = true
theorem Rise.up {l : List Pr} {k : Nat} (h : Rise l k) : Up (l.take k) := up_of fun j p q hp hq => by
  rw [List.getElem?_take] at hp hq
  split at hq
  · rename_i hlt
    rw [if_pos (by omega)] at hp
    exact h j p q hlt hp hq
  · cases hq
theorem Rise.next {l : List Pr} {k : Nat} {p q : Pr} (h : Rise l (k + 1)) (hp : l[k]? = some p) (hq : l[k + 1]? = some q) (hx : ltB p.k q.k = true) : Rise l (k + 1 + 1) := fun j a b hj ha hb => by
  rcases Nat.lt_or_ge (j + 1) (k + 1) with h1 | h1
  · exact h j a b h1 ha hb
  · obtain rfl : j = k := by omega
    rw [hp] at ha; rw [hq] at hb
    cases ha; cases hb
    exact hx
set_option maxRecDepth 100000 in
set_option maxHeartbeats 2000000 in
theorem rising_any (A : Option Addr) (n c : Nat) (l : List Pr) (w : World) (hn : l.length = n) (hc : n ≤ c) (hl : Prs w A l) (ln : n ≤ 4611686018427387904) :
    Calls Try.prog 16 #[.slice A n c] w fun e w' => ∃ m q : Nat, e = .returned (.slice A m c) ∧ m ≤ l.length ∧ Up (l.take m) ∧ w' = w.drewN q := by
  subst hn
  have HL := hide hl
  clear hl
  go_enter Try.func16, Try.ntmps16
  go_wp2
  go_loopw [3] (fun i wr => ∃ k q : Nat, k ≤ l.length ∧ i = .int .i64 (k + 1 : Nat) ∧ wr = w.drewN q ∧ Hid (Rise l (k + 1))) (fun i _ => l.length + 1 - (intOf i).toNat)
  case atStart => exact ⟨0, 0, by omega, rfl, rfl, fun j p q hj => absurd hj (by omega)⟩
  case round =>
    obtain ⟨k, q, hk, rfl, rfl, R⟩ := hrel
    by_cases hlt : k + 1 < l.length
    · obtain ⟨p, hp⟩ : ∃ p, l[k]? = some p := ⟨_, List.getElem?_eq_getElem (by omega)⟩
      obtain ⟨x, hx⟩ : ∃ p, l[k + 1]? = some p := ⟨_, List.getElem?_eq_getElem hlt⟩
      obtain ⟨b, o, rfl, hbs, c0, -, -⟩ := HL.out.at_ hp
      obtain ⟨b', o', e', -, d0, -, -⟩ := HL.out.at_ hx
      cases e'
      obtain ⟨j, hj⟩ : ∃ j, k + 1 = j := ⟨_, rfl⟩
      have hkw : IntKind.i64.wrap ((j : Int) - 1) = (k : Int) := by rw [IntKind.wrap_i64]; omega
      have hkl : k < l.length := by omega
      have HP := hide hp
      have HX := hide hx
      cases ht : ltB p.k x.k
      · have HU := hide (show Up (l.take j) by rw [← hj]; exact R.out.up)
        unfold ltB at ht
        rw [hj] at hlt d0 ⊢
        have hjc : j ≤ c := by omega
        have hjl : j ≤ l.length := by omega
        clear hp hx
        go_wp2
        go_quiet (fail)
        go_wp2
        go_ret
        exact ⟨j, q + nq, rfl, hjl, HU.out, rfl⟩
      · have R2 := hide (R.out.next hp hx ht)
        unfold ltB at ht
        rw [hj] at hlt d0 R2 ⊢
        clear hp hx
        go_wp2
        go_quiet (fail)
        go_wp2
        go_roundw
        case rel => exact ⟨j, _, by omega, by go_num, rfl, R2⟩
        case measure => simp [intOf]; omega
    · have HU := hide (show Up (l.take l.length) by
        have := R.out.up
        rw [List.take_of_length_le (by omega)] at this
        rw [List.take_length]; exact this)
      go_wp2
      go_ret
      exact ⟨_, q, rfl, Nat.le_refl _, HU.out, rfl⟩
end Go.Proofs.Ytmcemijipplkgaa
