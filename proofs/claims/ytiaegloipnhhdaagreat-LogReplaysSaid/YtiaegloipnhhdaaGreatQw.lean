/- sort's partitionEqual_func over instances. Conditions: the row lies in memory; places are within it. -/
import Derived.Test.YtiaegloipnhhdaaGreatQu
import Derived.LoopTactic
import Derived.Deep.CutBlock
namespace Go.Proofs.YtiaegloipnhhdaaGreat
set_option maxRecDepth 100000
open Go.RowKit Go.Maps Go.Shelf Go.Sort Go.Lib
section
variable {W w : World} {blk Bs n : Nat} {d : Array (Int × Int)} {sb : Array Value}
set_option maxHeartbeats 32000000 in
theorem pparteq_any (C : Cx W blk Bs n sb) (S : Sw W blk d w) (hd : d.size = n) {a b p : Nat} (hab : a + 1 ≤ b) (hbn : b ≤ n) (hp : p < n) :
    Calls Tryz.prog 116 #[.agg #[.func (.func 34) #[] #[.pointer (some ⟨Bs, 0, none⟩)], .func (.func 107) #[] sb], .int .i64 a, .int .i64 b, .int .i64 p] w fun e w' => e = .returned (.int .i64 (partitionEqual ltP d a b p).1) ∧ Sw W blk (partitionEqual ltP d a b p).2 w' ∧ Kq (fun k => k = blk) w w' := by
  have HS := hide (show Sl W w (w.alloc (.cells #[.func (.func 34) #[] #[.pointer (some ⟨Bs, 0, none⟩)], .func (.func 107) #[] sb] 117)) blk d w.heap.size Bs sb from ⟨S.below (kept_alloc (kept_refl w) _) C.hb, .of_below (kept_alloc (kept_refl w) _), Row.new w _ _⟩)
  have hbd : w.heap.size ≠ blk := by have := C.hb; have := S.kq.size; omega
  have hn := C.hn
  have HL := hide (fun (w' : World) (d' : Array (Int × Int)) (h : Sw W blk d' w') (hd : d'.size = n) (i j : Nat) (hi : i < n) (hj : j < n) => less_any C h hd hi hj)
  have HW := hide (fun (w' : World) (d' : Array (Int × Int)) (h : Sl W w w' blk d' w.heap.size Bs sb) (hd : d'.size = n) (i j : Nat) (hi : i < n) (hj : j < n) => h.swap C hd hbd hi hj)
  have HB := hide C.hb
  clear S C
  go_enter Tryz.func116, Tryz.ntmps116
  go_upto_region 1 with (fail)
  generalize w.alloc (.cells #[.func (.func 34) #[] #[.pointer (some ⟨Bs, 0, none⟩)], .func (.func 107) #[] sb] 117) = w1 at HS ⊢
  generalize w.heap.size = bd at HS HW hbd ⊢
  obtain ⟨w2, hs, hS2⟩ := HW.out w1 d HS.out hd a p (by omega) hp
  have HS2 := hide hS2
  have HD2 := hide (show (swp d a p).size = n by rw [size_swp]; exact hd)
  have c0 := HS.out.bx.cell 0
  have c1 := HS.out.bx.cell 1
  have HPP := hide (show partitionEqual ltP d a b p = partEqLoop ltP a (a + 1) (b - 1) (swp d a p) from rfl)
  obtain ⟨P, hP⟩ : ∃ P, partitionEqual ltP d a b p = P := ⟨_, rfl⟩
  rw [hP] at HPP
  have HP := hide hP
  obtain ⟨D, hD⟩ : ∃ D, swp d a p = D := ⟨_, rfl⟩
  rw [hD] at HS2 HD2 HPP
  clear hS2 hP hD hd
  go_wp2_with (first | (rw [hs, Oper.upon_value]) | fail)
  clear hs c0 c1 HS
  go_loopw [9, 10] (fun vi vj wr => ∃ (i j : Nat) (dk : Array (Int × Int)), vi = .int .i64 i ∧ vj = .int .i64 j ∧ a < i ∧ i ≤ j + 2 ∧ j + 1 ≤ b ∧ Hid (dk.size = n) ∧ Hid (Sl W w wr blk dk bd Bs sb) ∧ Hid (P = partEqLoop ltP a i j dk)) (fun vi vj _ => (intOf vj + 1 - intOf vi).toNat)
  case atStart => exact ⟨a + 1, b - 1, D, by go_num, by go_num, by omega, by omega, by omega, HD2, HS2, HPP⟩
  case round =>
    clear HS2 HPP HD2
    obtain ⟨i, j, dk, rfl, rfl, hai, hij, hjb, HD, HT, HO⟩ := hrel
    obtain ⟨i2, hI2⟩ : ∃ z, scanUp (fun x => !ltP dk[a]! x) dk j i = z := ⟨_, rfl⟩
    have HI2 := hide hI2
    clear hI2
    go_upto_block 2 with (fail)
    go_cut [9] from 20 to 32 (fun s9 wx => s9 = .int .i64 (i2 : Nat) ∧ i ≤ i2 ∧ i2 ≤ j + 2 ∧ Hid (Sl W w wx blk dk bd Bs sb))
    case first =>
      go_wp2
      go_loopw [9] (fun vz wr => ∃ z : Nat, vz = .int .i64 z ∧ i ≤ z ∧ z ≤ j + 2 ∧ Hid (Sl W w wr blk dk bd Bs sb) ∧ Hid (scanUp (fun x => !ltP dk[a]! x) dk j z = i2)) (fun vz _ => j + 1 - (intOf vz).toNat)
      case atStart => exact ⟨i, rfl, Nat.le_refl _, hij, HT, HI2⟩
      case round =>
        clear HT HI2
        obtain ⟨z, rfl, hz1, hz2, HTZ, HZ⟩ := hrel
        have c0 := HTZ.out.bx.cell 0
        have c1 := HTZ.out.bx.cell 1
        by_cases hlt : z ≤ j
        · have hlti : (z : Int) ≤ (j : Int) := by omega
          have hl := HL.out wr dk HTZ.out.sw HD.out a z (by omega) (by omega)
          cases hlv : ltP dk[a]! dk[z]! with
          | true =>
            rw [hlv] at hl
            have HLL := hide hl
            have hp : (fun x => !ltP dk[a]! x) dk[z]! = false := by simp [hlv]
            have HE := hide (show z = i2 by rw [← HZ.out, scanUp_end _ _ _ _ (Or.inr hp)])
            clear hl hlv hp
            go_wp2_with (go_at_call 34; (with_reducible refine HLL.out.mono ?_); rintro e w9 ⟨rfl, hb2⟩; replace HTZ := hide (HTZ.out.below hb2 HB.out); clear hb2 c0 c1)
            go_meet
            have e := HE.out
            subst e
            exact ⟨rfl, by omega, by omega, HTZ⟩
          | false =>
            rw [hlv] at hl
            have HLL := hide hl
            have hp : (fun x => !ltP dk[a]! x) dk[z]! = true := by simp [hlv]
            have HE := hide (show scanUp (fun x => !ltP dk[a]! x) dk j (z + 1) = i2 by rw [← HZ.out, scanUp_go _ _ _ _ hlt hp])
            clear hl hlv hp
            go_wp2_with (go_at_call 34; (with_reducible refine HLL.out.mono ?_); rintro e w9 ⟨rfl, hb2⟩; replace HTZ := hide (HTZ.out.below hb2 HB.out); clear hb2 c0 c1)
            go_roundw
            case rel => exact ⟨z + 1, by go_num, by omega, by omega, HTZ, HE⟩
            case measure => simp [intOf]; omega
        · have hlti : ¬ (z : Int) ≤ (j : Int) := by omega
          have HE := hide (show z = i2 by rw [← HZ.out, scanUp_end _ _ _ _ (Or.inl hlt)])
          go_wp2
          go_meet
          have e := HE.out
          subst e
          exact ⟨rfl, by omega, by omega, HTZ⟩
    case rest =>
    clear HT
    obtain ⟨rfl, h1, h2, HT⟩ := hcut
    obtain ⟨j2, hJ2⟩ : ∃ z, scanDown (fun x => ltP dk[a]! x) dk i2 j = z := ⟨_, rfl⟩
    have HJ2 := hide hJ2
    clear hJ2
    go_upto_block 4 with (fail)
    go_cut [10] from 33 to 44 (fun s9 wx => s9 = .int .i64 (j2 : Nat) ∧ j2 ≤ j ∧ i2 ≤ j2 + 2 ∧ Hid (Sl W w wx blk dk bd Bs sb))
    case first =>
      go_wp2
      go_loopw [10] (fun vz wr => ∃ z : Nat, vz = .int .i64 z ∧ z ≤ j ∧ i2 ≤ z + 2 ∧ Hid (Sl W w wr blk dk bd Bs sb) ∧ Hid (scanDown (fun x => ltP dk[a]! x) dk i2 z = j2)) (fun vz _ => (intOf vz).toNat)
      case atStart => exact ⟨j, rfl, Nat.le_refl _, by omega, HT, HJ2⟩
      case round =>
        clear HT HJ2
        obtain ⟨z, rfl, hz1, hz2, HTZ, HZ⟩ := hrel
        have c0 := HTZ.out.bx.cell 0
        have c1 := HTZ.out.bx.cell 1
        by_cases hlt : i2 ≤ z
        · have hlti : (i2 : Int) ≤ (z : Int) := by omega
          have hz0 : 0 < z := by omega
          have hl := HL.out wr dk HTZ.out.sw HD.out a z (by omega) (by omega)
          cases hlv : ltP dk[a]! dk[z]! with
          | true =>
            rw [hlv] at hl
            have HLL := hide hl
            have hp : (fun x => ltP dk[a]! x) dk[z]! = true := by simp [hlv]
            have HE := hide (show scanDown (fun x => ltP dk[a]! x) dk i2 (z - 1) = j2 by rw [← HZ.out, scanDown_go _ _ _ _ hlt hz0 hp])
            clear hl hlv hp
            go_wp2_with (go_at_call 34; (with_reducible refine HLL.out.mono ?_); rintro e w9 ⟨rfl, hb2⟩; replace HTZ := hide (HTZ.out.below hb2 HB.out); clear hb2 c0 c1)
            go_roundw
            case rel => exact ⟨z - 1, by go_num, by omega, by omega, HTZ, HE⟩
            case measure => simp [intOf]; omega
          | false =>
            rw [hlv] at hl
            have HLL := hide hl
            have hp : (fun x => ltP dk[a]! x) dk[z]! = false := by simp [hlv]
            have HE := hide (show z = j2 by rw [← HZ.out, scanDown_end _ _ _ _ (Or.inr hp)])
            clear hl hlv hp
            go_wp2_with (go_at_call 34; (with_reducible refine HLL.out.mono ?_); rintro e w9 ⟨rfl, hb2⟩; replace HTZ := hide (HTZ.out.below hb2 HB.out); clear hb2 c0 c1)
            go_meet
            have e := HE.out
            subst e
            exact ⟨rfl, by omega, by omega, HTZ⟩
        · have hlti : ¬ (i2 : Int) ≤ (z : Int) := by omega
          have HE := hide (show z = j2 by rw [← HZ.out, scanDown_end _ _ _ _ (Or.inl hlt)])
          go_wp2
          go_meet
          have e := HE.out
          subst e
          exact ⟨rfl, by omega, by omega, HTZ⟩
    case rest =>
    clear HT
    obtain ⟨rfl, h3, h4, HT⟩ := hcut
    by_cases hgt : j2 < i2
    · have hgti : (i2 : Int) > (j2 : Int) := by omega
      have HE := hide (show P = (i2, dk) by rw [HO.out, partEq_break ltP a i j dk HI2.out.symm HJ2.out.symm hgt])
      clear HO HI2 HJ2
      go_wp2
      go_ret
      rw [HP.out, HE.out]
      exact ⟨rfl, HT.out.sw, HT.out.kq⟩
    · have hgti : ¬ (i2 : Int) > (j2 : Int) := by omega
      have HE := hide (show P = partEqLoop ltP a (i2 + 1) (j2 - 1) (swp dk i2 j2) by rw [HO.out, partEq_go ltP a i j dk HI2.out.symm HJ2.out.symm hgt])
      obtain ⟨w4, hs, hT4⟩ := HW.out _ dk HT.out HD.out i2 j2 (by omega) (by omega)
      have HT4 := hide hT4
      have c0 := HT.out.bx.cell 0
      have c1 := HT.out.bx.cell 1
      clear HO HI2 HJ2 hT4
      go_wp2_with (first | (rw [hs, Oper.upon_value]) | fail)
      exact ⟨⟨i2 + 1, j2 - 1, swp dk i2 j2, by go_num, by go_num, by omega, by omega, by omega, hide (by rw [size_swp]; exact HD.out), HT4, HE⟩, by simp [intOf]; omega⟩
end
end Go.Proofs.YtiaegloipnhhdaaGreat
/- sort's partition_func over instances. Conditions: the row lies in memory; places are within it. -/
namespace Go.Proofs.YtiaegloipnhhdaaGreat
set_option maxRecDepth 100000
open Go.RowKit Go.Maps Go.Shelf Go.Sort Go.Lib
section
variable {W w : World} {blk Bs n : Nat} {d : Array (Int × Int)} {sb : Array Value}
set_option maxHeartbeats 64000000 in
theorem ppartition_any (C : Cx W blk Bs n sb) (S : Sw W blk d w) (hd : d.size = n) {a b p : Nat} (hab : a + 2 ≤ b) (hbn : b ≤ n) (hp : p < n) :
    Calls Tryz.prog 117 #[.agg #[.func (.func 34) #[] #[.pointer (some ⟨Bs, 0, none⟩)], .func (.func 107) #[] sb], .int .i64 a, .int .i64 b, .int .i64 p] w fun e w' => e = .returned (.tuple #[.int .i64 (partition ltP d a b p).1, .bool (partition ltP d a b p).2.1]) ∧ Sw W blk (partition ltP d a b p).2.2 w' ∧ Kq (fun k => k = blk) w w' := by
  have HS := hide (show Sl W w (w.alloc (.cells #[.func (.func 34) #[] #[.pointer (some ⟨Bs, 0, none⟩)], .func (.func 107) #[] sb] 117)) blk d w.heap.size Bs sb from ⟨S.below (kept_alloc (kept_refl w) _) C.hb, .of_below (kept_alloc (kept_refl w) _), Row.new w _ _⟩)
  have hbd : w.heap.size ≠ blk := by have := C.hb; have := S.kq.size; omega
  have hn := C.hn
  have HL := hide (fun (w' : World) (d' : Array (Int × Int)) (h : Sw W blk d' w') (hd : d'.size = n) (i j : Nat) (hi : i < n) (hj : j < n) => less_any C h hd hi hj)
  have HW := hide (fun (w' : World) (d' : Array (Int × Int)) (h : Sl W w w' blk d' w.heap.size Bs sb) (hd : d'.size = n) (i j : Nat) (hi : i < n) (hj : j < n) => h.swap C hd hbd hi hj)
  have HB := hide C.hb
  clear S C
  go_enter Tryz.func117, Tryz.ntmps117
  go_upto_region 1 with (fail)
  generalize w.alloc (.cells #[.func (.func 34) #[] #[.pointer (some ⟨Bs, 0, none⟩)], .func (.func 107) #[] sb] 117) = w1 at HS ⊢
  generalize w.heap.size = bd at HS HW hbd ⊢
  obtain ⟨w2, hs, hS2⟩ := HW.out w1 d HS.out hd a p (by omega) hp
  have HT := hide hS2
  have HD := hide (show (swp d a p).size = n by rw [size_swp]; exact hd)
  have c0 := HS.out.bx.cell 0
  have c1 := HS.out.bx.cell 1
  obtain ⟨P, hP⟩ : ∃ P, partition ltP d a b p = P := ⟨_, rfl⟩
  have HPP := hide hP
  obtain ⟨dk, hdk⟩ : ∃ D, swp d a p = D := ⟨_, rfl⟩
  rw [hdk] at HT HD
  have HO := hide (show P = (if scanUp (fun x => ltP x dk[a]!) dk (b - 1) (a + 1) > scanDown (fun x => !ltP x dk[a]!) dk (scanUp (fun x => ltP x dk[a]!) dk (b - 1) (a + 1)) (b - 1) then (scanDown (fun x => !ltP x dk[a]!) dk (scanUp (fun x => ltP x dk[a]!) dk (b - 1) (a + 1)) (b - 1), true, swp dk (scanDown (fun x => !ltP x dk[a]!) dk (scanUp (fun x => ltP x dk[a]!) dk (b - 1) (a + 1)) (b - 1)) a)
    else ((partLoop ltP a (scanUp (fun x => ltP x dk[a]!) dk (b - 1) (a + 1) + 1) (scanDown (fun x => !ltP x dk[a]!) dk (scanUp (fun x => ltP x dk[a]!) dk (b - 1) (a + 1)) (b - 1) - 1) (swp dk (scanUp (fun x => ltP x dk[a]!) dk (b - 1) (a + 1)) (scanDown (fun x => !ltP x dk[a]!) dk (scanUp (fun x => ltP x dk[a]!) dk (b - 1) (a + 1)) (b - 1)))).1, false, swp (partLoop ltP a (scanUp (fun x => ltP x dk[a]!) dk (b - 1) (a + 1) + 1) (scanDown (fun x => !ltP x dk[a]!) dk (scanUp (fun x => ltP x dk[a]!) dk (b - 1) (a + 1)) (b - 1) - 1) (swp dk (scanUp (fun x => ltP x dk[a]!) dk (b - 1) (a + 1)) (scanDown (fun x => !ltP x dk[a]!) dk (scanUp (fun x => ltP x dk[a]!) dk (b - 1) (a + 1)) (b - 1)))).2 (partLoop ltP a (scanUp (fun x => ltP x dk[a]!) dk (b - 1) (a + 1) + 1) (scanDown (fun x => !ltP x dk[a]!) dk (scanUp (fun x => ltP x dk[a]!) dk (b - 1) (a + 1)) (b - 1) - 1) (swp dk (scanUp (fun x => ltP x dk[a]!) dk (b - 1) (a + 1)) (scanDown (fun x => !ltP x dk[a]!) dk (scanUp (fun x => ltP x dk[a]!) dk (b - 1) (a + 1)) (b - 1)))).1 a)) from by
    rw [← hP, ← hdk]
    rfl)
  obtain ⟨i, hi⟩ : ∃ i, a + 1 = i := ⟨_, rfl⟩
  obtain ⟨j, hj⟩ : ∃ j, b - 1 = j := ⟨_, rfl⟩
  rw [hi, hj] at HO
  have ei : (a : Int) + 1 = (i : Int) := by omega
  have ej : (b : Int) - 1 = (j : Int) := by omega
  have hai : a < i := by omega
  have hij : i ≤ j + 2 := by omega
  have hjb : j + 1 ≤ b := by omega
  have haj : a < j := by omega
  clear hS2 hP hdk hd hi hj
  go_upto_block 0 with (first | (rw [hs, Oper.upon_value]) | fail)
  clear hs c0 c1 HS ei ej
  obtain ⟨i2, hI2⟩ : ∃ z, scanUp (fun x => ltP x dk[a]!) dk j i = z := ⟨_, rfl⟩
  have HI2 := hide hI2
  clear hI2
  go_upto_block 0 with (fail)
  go_cut [10] from 21 to 32 (fun s9 wx => s9 = .int .i64 (i2 : Nat) ∧ i ≤ i2 ∧ i2 ≤ j + 2 ∧ Hid (Sl W w wx blk dk bd Bs sb))
  case first =>
    go_wp2
    go_loopw [10] (fun vz wr => ∃ z : Nat, vz = .int .i64 z ∧ i ≤ z ∧ z ≤ j + 2 ∧ Hid (Sl W w wr blk dk bd Bs sb) ∧ Hid (scanUp (fun x => ltP x dk[a]!) dk j z = i2)) (fun vz _ => j + 1 - (intOf vz).toNat)
    case atStart => exact ⟨i, rfl, Nat.le_refl _, hij, HT, HI2⟩
    case round =>
      clear HT HI2
      obtain ⟨z, rfl, hz1, hz2, HTZ, HZ⟩ := hrel
      have c0 := HTZ.out.bx.cell 0
      have c1 := HTZ.out.bx.cell 1
      by_cases hlt : z ≤ j
      · have hlti : (z : Int) ≤ (j : Int) := by omega
        have hl := HL.out wr dk HTZ.out.sw HD.out z a (by omega) (by omega)
        cases hlv : ltP dk[z]! dk[a]! with
        | true =>
          rw [hlv] at hl
          have HLL := hide hl
          have hp : (fun x => ltP x dk[a]!) dk[z]! = true := by simp [hlv]
          have HE := hide (show scanUp (fun x => ltP x dk[a]!) dk j (z + 1) = i2 by rw [← HZ.out, scanUp_go (fun x => ltP x dk[a]!) dk j z hlt hp])
          clear hl hlv hp
          go_wp2_with (go_at_call 34; (with_reducible refine HLL.out.mono ?_); rintro e w9 ⟨rfl, hb2⟩; replace HTZ := hide (HTZ.out.below hb2 HB.out); clear hb2 c0 c1)
          go_roundw
          case rel => exact ⟨z + 1, by go_num, by omega, by omega, HTZ, HE⟩
          case measure => simp [intOf]; omega
        | false =>
          rw [hlv] at hl
          have HLL := hide hl
          have hp : (fun x => ltP x dk[a]!) dk[z]! = false := by simp [hlv]
          have HE := hide (show z = i2 by rw [← HZ.out, scanUp_end (fun x => ltP x dk[a]!) dk j z (Or.inr hp)])
          clear hl hlv hp
          go_wp2_with (go_at_call 34; (with_reducible refine HLL.out.mono ?_); rintro e w9 ⟨rfl, hb2⟩; replace HTZ := hide (HTZ.out.below hb2 HB.out); clear hb2 c0 c1)
          go_meet
          have e := HE.out
          subst e
          exact ⟨rfl, by omega, by omega, HTZ⟩
      · have hlti : ¬ (z : Int) ≤ (j : Int) := by omega
        have HE := hide (show z = i2 by rw [← HZ.out, scanUp_end (fun x => ltP x dk[a]!) dk j z (Or.inl hlt)])
        go_wp2
        go_meet
        have e := HE.out
        subst e
        exact ⟨rfl, by omega, by omega, HTZ⟩
  case rest =>
  clear HT
  obtain ⟨rfl, h1, h2, HT⟩ := hcut
  obtain ⟨j2, hJ2⟩ : ∃ z, scanDown (fun x => !ltP x dk[a]!) dk i2 j = z := ⟨_, rfl⟩
  have HJ2 := hide hJ2
  clear hJ2
  go_upto_block 2 with (fail)
  go_cut [11] from 33 to 45 (fun s9 wx => s9 = .int .i64 (j2 : Nat) ∧ j2 ≤ j ∧ i2 ≤ j2 + 2 ∧ Hid (Sl W w wx blk dk bd Bs sb))
  case first =>
    go_wp2
    go_loopw [11] (fun vz wr => ∃ z : Nat, vz = .int .i64 z ∧ z ≤ j ∧ i2 ≤ z + 2 ∧ Hid (Sl W w wr blk dk bd Bs sb) ∧ Hid (scanDown (fun x => !ltP x dk[a]!) dk i2 z = j2)) (fun vz _ => (intOf vz).toNat)
    case atStart => exact ⟨j, rfl, Nat.le_refl _, by omega, HT, HJ2⟩
    case round =>
      clear HT HJ2
      obtain ⟨z, rfl, hz1, hz2, HTZ, HZ⟩ := hrel
      have c0 := HTZ.out.bx.cell 0
      have c1 := HTZ.out.bx.cell 1
      by_cases hlt : i2 ≤ z
      · have hlti : (i2 : Int) ≤ (z : Int) := by omega
        have hz0 : 0 < z := by omega
        have hl := HL.out wr dk HTZ.out.sw HD.out z a (by omega) (by omega)
        cases hlv : ltP dk[z]! dk[a]! with
        | true =>
          rw [hlv] at hl
          have HLL := hide hl
          have hp : (fun x => !ltP x dk[a]!) dk[z]! = false := by simp [hlv]
          have HE := hide (show z = j2 by rw [← HZ.out, scanDown_end (fun x => !ltP x dk[a]!) dk i2 z (Or.inr hp)])
          clear hl hlv hp
          go_wp2_with (go_at_call 34; (with_reducible refine HLL.out.mono ?_); rintro e w9 ⟨rfl, hb2⟩; replace HTZ := hide (HTZ.out.below hb2 HB.out); clear hb2 c0 c1)
          go_meet
          have e := HE.out
          subst e
          exact ⟨rfl, by omega, by omega, HTZ⟩
        | false =>
          rw [hlv] at hl
          have HLL := hide hl
          have hp : (fun x => !ltP x dk[a]!) dk[z]! = true := by simp [hlv]
          have HE := hide (show scanDown (fun x => !ltP x dk[a]!) dk i2 (z - 1) = j2 by rw [← HZ.out, scanDown_go (fun x => !ltP x dk[a]!) dk i2 z hlt hz0 hp])
          clear hl hlv hp
          go_wp2_with (go_at_call 34; (with_reducible refine HLL.out.mono ?_); rintro e w9 ⟨rfl, hb2⟩; replace HTZ := hide (HTZ.out.below hb2 HB.out); clear hb2 c0 c1)
          go_roundw
          case rel => exact ⟨z - 1, by go_num, by omega, by omega, HTZ, HE⟩
          case measure => simp [intOf]; omega
      · have hlti : ¬ (i2 : Int) ≤ (z : Int) := by omega
        have HE := hide (show z = j2 by rw [← HZ.out, scanDown_end (fun x => !ltP x dk[a]!) dk i2 z (Or.inl hlt)])
        go_wp2
        go_meet
        have e := HE.out
        subst e
        exact ⟨rfl, by omega, by omega, HTZ⟩
  case rest =>
  clear HT
  obtain ⟨rfl, h3, h4, HT⟩ := hcut
  rw [HI2.out, HJ2.out] at HO
  clear HI2 HJ2
  have c0 := HT.out.bx.cell 0
  have c1 := HT.out.bx.cell 1
  by_cases hgt : i2 > j2
  · have hgti : (i2 : Int) > (j2 : Int) := by omega
    rw [if_pos hgt] at HO
    obtain ⟨w4, hs, hT4⟩ := HW.out _ dk HT.out HD.out j2 a (by omega) (by omega)
    have HT4 := hide hT4
    clear hT4
    go_wp2_with (first | (rw [hs, Oper.upon_value]) | fail)
    refine bodyPost_ret (results_tmp2 rfl _ _ _) rfl ?_
    rw [HPP.out, HO.out]
    exact ⟨rfl, HT4.out.sw, HT4.out.kq⟩
  · have hgti : ¬ (i2 : Int) > (j2 : Int) := by omega
    rw [if_neg hgt] at HO
    obtain ⟨w4, hs, hT4⟩ := HW.out _ dk HT.out HD.out i2 j2 (by omega) (by omega)
    have HT4 := hide hT4
    have HD4 := hide (show (swp dk i2 j2).size = n by rw [size_swp]; exact HD.out)
    obtain ⟨R, hR⟩ : ∃ R, partLoop ltP a (i2 + 1) (j2 - 1) (swp dk i2 j2) = R := ⟨_, rfl⟩
    rw [hR] at HO
    have HR := hide hR
    clear hT4 hR
    go_wp2_with (first | (rw [hs, Oper.upon_value]) | fail)
    clear hs c0 c1
    go_loopw [10, 11] (fun vi vj wr => ∃ (i j : Nat) (dk : Array (Int × Int)), vi = .int .i64 i ∧ vj = .int .i64 j ∧ a < i ∧ i ≤ j + 2 ∧ a ≤ j ∧ j + 1 ≤ b ∧ Hid (dk.size = n) ∧ Hid (Sl W w wr blk dk bd Bs sb) ∧ Hid (partLoop ltP a i j dk = R)) (fun vi vj _ => (intOf vj + 1 - intOf vi).toNat)
    case atStart => exact ⟨i2 + 1, j2 - 1, swp dk i2 j2, by go_num, by go_num, by omega, by omega, by omega, by omega, HD4, HT4, HR⟩
    case round =>
      clear HT4 HR HD4 HT HD h1 h2 h3 h4 hgt hgti hij hai hjb haj
      obtain ⟨i, j, dk, rfl, rfl, hai, hij, haj, hjb, HD, HT, HQ⟩ := hrel
      obtain ⟨i2, hI2⟩ : ∃ z, scanUp (fun x => ltP x dk[a]!) dk j i = z := ⟨_, rfl⟩
      have HI2 := hide hI2
      clear hI2
      go_upto_block 6 with (fail)
      go_cut [10] from 64 to 75 (fun s9 wx => s9 = .int .i64 (i2 : Nat) ∧ i ≤ i2 ∧ i2 ≤ j + 2 ∧ Hid (Sl W w wx blk dk bd Bs sb))
      case first =>
        go_wp2
        go_loopw [10] (fun vz wr => ∃ z : Nat, vz = .int .i64 z ∧ i ≤ z ∧ z ≤ j + 2 ∧ Hid (Sl W w wr blk dk bd Bs sb) ∧ Hid (scanUp (fun x => ltP x dk[a]!) dk j z = i2)) (fun vz _ => j + 1 - (intOf vz).toNat)
        case atStart => exact ⟨i, rfl, Nat.le_refl _, hij, HT, HI2⟩
        case round =>
          clear HT HI2
          obtain ⟨z, rfl, hz1, hz2, HTZ, HZ⟩ := hrel
          have c0 := HTZ.out.bx.cell 0
          have c1 := HTZ.out.bx.cell 1
          by_cases hlt : z ≤ j
          · have hlti : (z : Int) ≤ (j : Int) := by omega
            have hl := HL.out wr dk HTZ.out.sw HD.out z a (by omega) (by omega)
            cases hlv : ltP dk[z]! dk[a]! with
            | true =>
              rw [hlv] at hl
              have HLL := hide hl
              have hp : (fun x => ltP x dk[a]!) dk[z]! = true := by simp [hlv]
              have HE := hide (show scanUp (fun x => ltP x dk[a]!) dk j (z + 1) = i2 by rw [← HZ.out, scanUp_go (fun x => ltP x dk[a]!) dk j z hlt hp])
              clear hl hlv hp
              go_wp2_with (go_at_call 34; (with_reducible refine HLL.out.mono ?_); rintro e w9 ⟨rfl, hb2⟩; replace HTZ := hide (HTZ.out.below hb2 HB.out); clear hb2 c0 c1)
              go_roundw
              case rel => exact ⟨z + 1, by go_num, by omega, by omega, HTZ, HE⟩
              case measure => simp [intOf]; omega
            | false =>
              rw [hlv] at hl
              have HLL := hide hl
              have hp : (fun x => ltP x dk[a]!) dk[z]! = false := by simp [hlv]
              have HE := hide (show z = i2 by rw [← HZ.out, scanUp_end (fun x => ltP x dk[a]!) dk j z (Or.inr hp)])
              clear hl hlv hp
              go_wp2_with (go_at_call 34; (with_reducible refine HLL.out.mono ?_); rintro e w9 ⟨rfl, hb2⟩; replace HTZ := hide (HTZ.out.below hb2 HB.out); clear hb2 c0 c1)
              go_meet
              have e := HE.out
              subst e
              exact ⟨rfl, by omega, by omega, HTZ⟩
          · have hlti : ¬ (z : Int) ≤ (j : Int) := by omega
            have HE := hide (show z = i2 by rw [← HZ.out, scanUp_end (fun x => ltP x dk[a]!) dk j z (Or.inl hlt)])
            go_wp2
            go_meet
            have e := HE.out
            subst e
            exact ⟨rfl, by omega, by omega, HTZ⟩
      case rest =>
      clear HT
      obtain ⟨rfl, h1, h2, HT⟩ := hcut
      obtain ⟨j2, hJ2⟩ : ∃ z, scanDown (fun x => !ltP x dk[a]!) dk i2 j = z := ⟨_, rfl⟩
      have HJ2 := hide hJ2
      clear hJ2
      go_upto_block 8 with (fail)
      go_cut [11] from 76 to 88 (fun s9 wx => s9 = .int .i64 (j2 : Nat) ∧ j2 ≤ j ∧ i2 ≤ j2 + 2 ∧ Hid (Sl W w wx blk dk bd Bs sb))
      case first =>
        go_wp2
        go_loopw [11] (fun vz wr => ∃ z : Nat, vz = .int .i64 z ∧ z ≤ j ∧ i2 ≤ z + 2 ∧ Hid (Sl W w wr blk dk bd Bs sb) ∧ Hid (scanDown (fun x => !ltP x dk[a]!) dk i2 z = j2)) (fun vz _ => (intOf vz).toNat)
        case atStart => exact ⟨j, rfl, Nat.le_refl _, by omega, HT, HJ2⟩
        case round =>
          clear HT HJ2
          obtain ⟨z, rfl, hz1, hz2, HTZ, HZ⟩ := hrel
          have c0 := HTZ.out.bx.cell 0
          have c1 := HTZ.out.bx.cell 1
          by_cases hlt : i2 ≤ z
          · have hlti : (i2 : Int) ≤ (z : Int) := by omega
            have hz0 : 0 < z := by omega
            have hl := HL.out wr dk HTZ.out.sw HD.out z a (by omega) (by omega)
            cases hlv : ltP dk[z]! dk[a]! with
            | true =>
              rw [hlv] at hl
              have HLL := hide hl
              have hp : (fun x => !ltP x dk[a]!) dk[z]! = false := by simp [hlv]
              have HE := hide (show z = j2 by rw [← HZ.out, scanDown_end (fun x => !ltP x dk[a]!) dk i2 z (Or.inr hp)])
              clear hl hlv hp
              go_wp2_with (go_at_call 34; (with_reducible refine HLL.out.mono ?_); rintro e w9 ⟨rfl, hb2⟩; replace HTZ := hide (HTZ.out.below hb2 HB.out); clear hb2 c0 c1)
              go_meet
              have e := HE.out
              subst e
              exact ⟨rfl, by omega, by omega, HTZ⟩
            | false =>
              rw [hlv] at hl
              have HLL := hide hl
              have hp : (fun x => !ltP x dk[a]!) dk[z]! = true := by simp [hlv]
              have HE := hide (show scanDown (fun x => !ltP x dk[a]!) dk i2 (z - 1) = j2 by rw [← HZ.out, scanDown_go (fun x => !ltP x dk[a]!) dk i2 z hlt hz0 hp])
              clear hl hlv hp
              go_wp2_with (go_at_call 34; (with_reducible refine HLL.out.mono ?_); rintro e w9 ⟨rfl, hb2⟩; replace HTZ := hide (HTZ.out.below hb2 HB.out); clear hb2 c0 c1)
              go_roundw
              case rel => exact ⟨z - 1, by go_num, by omega, by omega, HTZ, HE⟩
              case measure => simp [intOf]; omega
          · have hlti : ¬ (i2 : Int) ≤ (z : Int) := by omega
            have HE := hide (show z = j2 by rw [← HZ.out, scanDown_end (fun x => !ltP x dk[a]!) dk i2 z (Or.inl hlt)])
            go_wp2
            go_meet
            have e := HE.out
            subst e
            exact ⟨rfl, by omega, by omega, HTZ⟩
      case rest =>
      clear HT
      obtain ⟨rfl, h3, h4, HT⟩ := hcut
      have c0 := HT.out.bx.cell 0
      have c1 := HT.out.bx.cell 1
      by_cases hgt : j2 < i2
      · have hgti : (i2 : Int) > (j2 : Int) := by omega
        have HE := hide (show R = (j2, dk) by rw [← HQ.out, part_break ltP a i j dk HI2.out.symm HJ2.out.symm hgt])
        clear HQ HI2 HJ2
        obtain ⟨w4, hs, hT4⟩ := HW.out _ dk HT.out HD.out j2 a (by omega) (by omega)
        have HT4 := hide hT4
        clear hT4
        go_wp2_with (first | (rw [hs, Oper.upon_value]) | fail)
        refine bodyPost_ret (results_tmp2 rfl _ _ _) rfl ?_
        rw [HPP.out, HO.out, HE.out]
        exact ⟨rfl, HT4.out.sw, HT4.out.kq⟩
      · have hgti : ¬ (i2 : Int) > (j2 : Int) := by omega
        have HE := hide (show partLoop ltP a (i2 + 1) (j2 - 1) (swp dk i2 j2) = R by rw [← HQ.out, part_go ltP a i j dk HI2.out.symm HJ2.out.symm hgt])
        obtain ⟨w4, hs, hT4⟩ := HW.out _ dk HT.out HD.out i2 j2 (by omega) (by omega)
        have HT4 := hide hT4
        clear HQ HI2 HJ2 hT4
        go_wp2_with (first | (rw [hs, Oper.upon_value]) | fail)
        exact ⟨⟨i2 + 1, j2 - 1, swp dk i2 j2, by go_num, by go_num, by omega, by omega, by omega, by omega, hide (by rw [size_swp]; exact HD.out), HT4, HE⟩, by simp [intOf]; omega⟩
end
end Go.Proofs.YtiaegloipnhhdaaGreat
