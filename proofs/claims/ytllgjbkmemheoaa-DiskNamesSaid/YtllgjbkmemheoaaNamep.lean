/- What the law on names comes to, in plain words. No condition. -/
import Derived.Test.YtllgjbkmemheoaaPure
namespace Go.Proofs.Ytllgjbkmemheoaa
open Go.RowKit
def d0 : DS := newS 1048576
section
variable {a b : ByteArray} {zs : List Int}
theorem np0 (h : nameB a = false) : appE d0 a zs = 11 ∧ appS d0 a zs = d0 := by simp [appE, appS, d0, newS, h]
theorem np1 (h : nameB a = true) (hl : zs.length ≤ 300) : appE d0 a zs = 0 ∧ appS d0 a zs = ⟨1048576, [⟨a, zs, 0⟩], -1, false⟩ := by
  have h1 : ¬ (1048576 : Int) < (zs.length : Int) := by omega
  simp [appE, appS, d0, newS, h, total, find, putF, datO, kepO, DS.spent, h1]
def d1 (a : ByteArray) (zs : List Int) : DS := ⟨1048576, [⟨a, zs, 0⟩], -1, false⟩
theorem np2 (h : nameB b = false) : appE (d1 a zs) b [1] = 11 ∧ appS (d1 a zs) b [1] = d1 a zs := by simp [appE, appS, d1, h]
/-- a's file and b's, in their order. -/
def d2 (a b : ByteArray) (zs : List Int) : DS := ⟨1048576, putF ⟨b, [1], 0⟩ [⟨a, zs, 0⟩], -1, false⟩
theorem np3 (h : nameB b = true) (hab : a ≠ b) (hl : zs.length ≤ 300) : appE (d1 a zs) b [1] = 0 ∧ appS (d1 a zs) b [1] = d2 a b zs := by
  have h1 : ¬ (1048576 : Int) < (zs.length : Int) + 1 := by omega
  simp [appE, appS, d1, d2, h, total, find, hab, datO, kepO, DS.spent, h1]
theorem np4 (h : nameB a = true) (hl : zs.length ≤ 300) : appE (d1 a zs) a [1] = 0 ∧ appS (d1 a zs) a [1] = d1 a (zs ++ [1]) := by
  have h1 : ¬ (1048576 : Int) < (zs.length : Int) + 1 := by omega
  simp [appE, appS, d1, h, total, find, putF, datO, kepO, DS.spent, h1]
/-- Renamed where both are right and unlike. -/
theorem np5 (hb : nameB b = true) (hab : a ≠ b) : renE (d2 a b zs) a b = 0 ∧ find b (renS (d2 a b zs) a b).l = some ⟨b, zs, 0⟩ ∧ find a (renS (d2 a b zs) a b).l = none ∧ (renS (d2 a b zs) a b).l.length ≤ 2 := by
  have hu : Up [(⟨a, zs, 0⟩ : Fl)] := by simp [Up]
  have hf : find a (d2 a b zs).l = some ⟨a, zs, 0⟩ := by
    show find a (putF ⟨b, [1], 0⟩ [⟨a, zs, 0⟩]) = _
    rw [find_putF _ _ _ hu, if_neg hab]; simp [find]
  have hu2 : Up (d2 a b zs).l := up_putF hu
  have e : (renS (d2 a b zs) a b).l = putF ⟨b, zs, 0⟩ (delF a (d2 a b zs).l) := by
    unfold renS
    rw [hf, hb]
    simp [d2]
  have hl2 : (delF a (d2 a b zs).l).length ≤ (d2 a b zs).l.length := List.length_filter_le _ _
  have hl3 : (d2 a b zs).l.length = 2 := by show (putF ⟨b, [1], 0⟩ [⟨a, zs, 0⟩]).length = 2; rw [length_putF _ _ hu]; simp [find, hab]
  have hl4 := length_delF a (d2 a b zs).l hu2
  rw [hf] at hl4
  simp only [Option.isSome_some, if_true, hl3] at hl4
  refine ⟨by unfold renE; rw [hf, hb]; simp [d2], ?_, ?_, ?_⟩
  · rw [e, find_putF _ _ _ (up_delF hu2), if_pos rfl]
  · rw [e, find_putF _ _ _ (up_delF hu2), if_neg hab, find_delF, if_pos rfl]
  · rw [e, length_putF _ _ (up_delF hu2), hl4]; split <;> omega
theorem np6 (h : nameB a = true) : renE (d1 a zs) a a = 0 ∧ renS (d1 a zs) a a = d1 a zs := by
  simp [renE, renS, d1, h, find, delF, putF, DS.spent]
theorem np7 (hb : nameB b = false) : renE (d1 a zs) a b = 11 ∧ renS (d1 a zs) a b = d1 a zs := by simp [renE, renS, d1, hb]
theorem np8 (hb : nameB b = false) : renE d0 a b = 11 ∧ renS d0 a b = d0 := by simp [renE, renS, d0, newS, hb]
/-- a wrong, b right. -/
theorem np9 (ha : nameB a = false) (hb : nameB b = true) : renE (d1 b zs) a b = 8 ∧ renS (d1 b zs) a b = d1 b zs := by
  have hab : ¬ b = a := fun e => by rw [e, ha] at hb; cases hb
  simp [renE, renS, d1, hb, find, hab]
theorem find_d1 : find a (d1 a zs).l = some ⟨a, zs, 0⟩ := by simp [find, d1]
theorem find_d1' (h : a ≠ b) : find b (d1 a zs).l = none := by simp [find, d1, h]
end
end Go.Proofs.Ytllgjbkmemheoaa
