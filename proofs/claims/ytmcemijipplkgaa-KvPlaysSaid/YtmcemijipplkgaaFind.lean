/- Where a key stands: the program's find, the document's at. Conditions: the list lies in memory, its length has room. -/
import Derived.Test.YtmcemijipplkgaaProg
import Derived.Test.YtmcemijipplkgaaPr
import Derived.WalkKit
import Derived.WalkSpells
import Derived.WalkLawsBesides
import Derived.LoopTactic
import Derived.BigQuiet
import Derived.Deep.QuietTactic
namespace Go.Proofs.Ytmcemijipplkgaa
open Go.RowKit
/-- Ahead of place k all keys are below it. -/
def Ahead (l : List Pr) (key : ByteArray) (k : Nat) : Prop := ∀ j, j < k → ∃ p, l[j]? = some p ∧ ltB p.k key = true
theorem Ahead.none_ (l : List Pr) (key : ByteArray) : Ahead l key 0 := fun j hj => absurd hj (by omega)
theorem Ahead.next {l : List Pr} {key : ByteArray} {k : Nat} {p : Pr} (h : Ahead l key k) (hp : l[k]? = some p) (hx : ltB p.k key = true) : Ahead l key (k + 1) := fun j hj => by
  rcases Nat.lt_or_ge j k with h1 | h1
  · exact h j h1
  · obtain rfl : j = k := by omega
    exact ⟨p, hp, hx⟩
/-- What find answers. -/
def foundV (l : List Pr) (key : ByteArray) : Value := .tuple #[.int .i64 (st l key : Nat), .bool (isB l key)]
theorem Ahead.here {l : List Pr} {key : ByteArray} {k : Nat} {p : Pr} (h : Ahead l key k) (hp : l[k]? = some p) (hx : ltB p.k key = false) {t : Bool} (ht : eqB p.k key = t) : foundV l key = .tuple #[.int .i64 (k : Nat), .bool t] := by
  have e := st_is h (fun q hq => by rw [hp] at hq; cases hq; exact hx)
  unfold foundV isB
  rw [e, hp]
  simp only [ht]
theorem Ahead.end_ {l : List Pr} {key : ByteArray} (h : Ahead l key l.length) : foundV l key = .tuple #[.int .i64 (l.length : Nat), .bool false] := by
  have e := st_is h (fun q hq => by rw [List.getElem?_eq_none (Nat.le_refl _)] at hq; cases hq)
  unfold foundV isB
  rw [e, List.getElem?_eq_none (Nat.le_refl _)]
set_option maxHeartbeats 2000000 in
theorem find_any (A : Option Addr) (n c : Nat) (l : List Pr) (key : ByteArray) (w : World) (hn : l.length = n) (hl : Prs w A l) (ln : n ≤ 4611686018427387904) :
    Calls Try.prog 24 #[.slice A n c, .string key] w fun e w' => e = .returned (foundV l key) ∧ Below w.heap.size w w' := by
  subst hn
  have HL := hide hl
  clear hl
  go_enter Try.func24, Try.ntmps24
  go_wp2
  go_loopw [10] (fun i wr => ∃ k : Nat, k ≤ l.length ∧ i = .int .i64 k ∧ Hid (Ahead l key k) ∧ Hid (Below w.heap.size w wr)) (fun i _ => l.length - (intOf i).toNat)
  case atStart => exact ⟨0, by omega, rfl, Ahead.none_ l key, Below.refl _ _⟩
  case round =>
    obtain ⟨k, hk, rfl, hs, hb⟩ := hrel
    by_cases hlt : k < l.length
    · obtain ⟨p, hp⟩ : ∃ p, l[k]? = some p := ⟨_, List.getElem?_eq_getElem hlt⟩
      obtain ⟨b, o, rfl, hbs, c0, c1, c2⟩ := (Prs.below HL.out hb.out).at_ hp
      have HP := hide hp
      clear hp
      cases hx : ltB p.k key
      · obtain ⟨t, ht⟩ : ∃ t, eqB p.k key = t := ⟨_, rfl⟩
        have HE := hide (hs.out.here HP.out hx ht)
        have h1 := hx
        unfold ltB at h1
        have h2 := ht
        unfold eqB at h2
        clear hx ht
        go_wp2
        go_quiet (fail)
        go_wp2
        go_ret2
        exact ⟨by rw [HE.out]; rfl, kept_drewN ((hb.out.alloc hb.out.size _)) _⟩
      · have HE := hide (hs.out.next HP.out hx)
        have h1 := hx
        unfold ltB at h1
        clear hx
        go_wp2
        go_roundw
        case rel => exact ⟨k + 1, by omega, by go_num, HE, hb.out.alloc hb.out.size _⟩
        case measure => simp [intOf]; omega
    · obtain rfl : k = l.length := by omega
      have HE := hide hs.out.end_
      go_wp2
      go_ret2
      exact ⟨by rw [HE.out]; rfl, hb.out⟩
set_option maxHeartbeats 2000000 in
theorem rat_any (A : Option Addr) (n c : Nat) (l : List Pr) (key : ByteArray) (w : World) (hn : l.length = n) (hl : Prs w A l) (ln : n ≤ 4611686018427387904) :
    Calls Try.prog 27 #[.slice A n c, .string key] w fun e w' => e = .returned (foundV l key) ∧ ∃ q, w' = w.drewN q := by
  subst hn
  have HL := hide hl
  clear hl
  go_enter Try.func27, Try.ntmps27
  go_wp2
  go_loopw [6] (fun i wr => ∃ k : Nat, k ≤ l.length ∧ i = .int .i64 k ∧ Hid (Ahead l key k) ∧ Hid (wr = w)) (fun i _ => l.length - (intOf i).toNat)
  case atStart => exact ⟨0, by omega, rfl, Ahead.none_ l key, hide rfl⟩
  case round =>
    obtain ⟨k, hk, rfl, hs, hw⟩ := hrel
    obtain rfl := hw.out
    by_cases hlt : k < l.length
    · obtain ⟨p, hp⟩ : ∃ p, l[k]? = some p := ⟨_, List.getElem?_eq_getElem hlt⟩
      obtain ⟨b, o, rfl, hbs, c0, c1, c2⟩ := HL.out.at_ hp
      have HP := hide hp
      clear hp
      cases hx : ltB p.k key
      · obtain ⟨t, ht⟩ : ∃ t, eqB p.k key = t := ⟨_, rfl⟩
        have HE := hide (hs.out.here HP.out hx ht)
        have h1 := hx
        unfold ltB at h1
        have h2 := ht
        unfold eqB at h2
        clear hx ht
        go_wp2
        go_quiet (fail)
        go_wp2
        go_ret2
        exact ⟨by rw [HE.out]; rfl, _, rfl⟩
      · have HE := hide (hs.out.next HP.out hx)
        have h1 := hx
        unfold ltB at h1
        clear hx
        go_wp2
        go_roundw
        case rel => exact ⟨k + 1, by omega, by go_num, HE, hide (by first | rfl | trivial)⟩
        case measure => simp [intOf]; omega
    · obtain rfl : k = l.length := by omega
      have HE := hide hs.out.end_
      go_wp2
      go_ret2
      exact ⟨by rw [HE.out]; rfl, 0, rfl⟩
end Go.Proofs.Ytmcemijipplkgaa
