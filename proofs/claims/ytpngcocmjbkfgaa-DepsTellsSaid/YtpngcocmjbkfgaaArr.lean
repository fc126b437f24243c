/- Rows of slots and attributes as plain lists of numbers: Right, RightAttr, RightDeps, Covers, Reach of package deps, and the document's. No condition. -/
import Derived.Test.YtpngcocmjbkfgaaCmp
import Derived.Test.YtpngcocmjbkfgaaMem
import Derived.WalkKit
import Derived.WalkSpells
import Derived.WalkLawsBesides
import Derived.LoopTactic
import Derived.BigQuiet
import Derived.Deep.QuietTactic
import Derived.StillTailTactics
import Derived.LoopN
import Derived.Lib.MinMax
namespace Go.Proofs.Ytpngcocmjbkfgaa
open Go.RowKit
/-- A place of a row, read out of it as a value. -/
theorem index_deps (d1 d2 d3 d4 d5 d6 d7 : Int) (k : Nat) (h : k < 7) (w : World) : (Instr.index 23 (.agg #[.int .i64 d1, .int .i64 d2, .int .i64 d3, .int .i64 d4, .int .i64 d5, .int .i64 d6, .int .i64 d7]) (.int .i64 (k : Int))).run Try.prog w = .ok (.int .i64 (ix [d1, d2, d3, d4, d5, d6, d7] k)) w := by
  have i0 : (Instr.index 23 (.agg #[.int .i64 d1, .int .i64 d2, .int .i64 d3, .int .i64 d4, .int .i64 d5, .int .i64 d6, .int .i64 d7]) (.int .i64 ((0 : Nat) : Int))).run Try.prog w = .ok (.int .i64 (ix [d1, d2, d3, d4, d5, d6, d7] 0)) w := by kernel_rfl
  have i1 : (Instr.index 23 (.agg #[.int .i64 d1, .int .i64 d2, .int .i64 d3, .int .i64 d4, .int .i64 d5, .int .i64 d6, .int .i64 d7]) (.int .i64 ((1 : Nat) : Int))).run Try.prog w = .ok (.int .i64 (ix [d1, d2, d3, d4, d5, d6, d7] 1)) w := by kernel_rfl
  have i2 : (Instr.index 23 (.agg #[.int .i64 d1, .int .i64 d2, .int .i64 d3, .int .i64 d4, .int .i64 d5, .int .i64 d6, .int .i64 d7]) (.int .i64 ((2 : Nat) : Int))).run Try.prog w = .ok (.int .i64 (ix [d1, d2, d3, d4, d5, d6, d7] 2)) w := by kernel_rfl
  have i3 : (Instr.index 23 (.agg #[.int .i64 d1, .int .i64 d2, .int .i64 d3, .int .i64 d4, .int .i64 d5, .int .i64 d6, .int .i64 d7]) (.int .i64 ((3 : Nat) : Int))).run Try.prog w = .ok (.int .i64 (ix [d1, d2, d3, d4, d5, d6, d7] 3)) w := by kernel_rfl
  have i4 : (Instr.index 23 (.agg #[.int .i64 d1, .int .i64 d2, .int .i64 d3, .int .i64 d4, .int .i64 d5, .int .i64 d6, .int .i64 d7]) (.int .i64 ((4 : Nat) : Int))).run Try.prog w = .ok (.int .i64 (ix [d1, d2, d3, d4, d5, d6, d7] 4)) w := by kernel_rfl
  have i5 : (Instr.index 23 (.agg #[.int .i64 d1, .int .i64 d2, .int .i64 d3, .int .i64 d4, .int .i64 d5, .int .i64 d6, .int .i64 d7]) (.int .i64 ((5 : Nat) : Int))).run Try.prog w = .ok (.int .i64 (ix [d1, d2, d3, d4, d5, d6, d7] 5)) w := by kernel_rfl
  have i6 : (Instr.index 23 (.agg #[.int .i64 d1, .int .i64 d2, .int .i64 d3, .int .i64 d4, .int .i64 d5, .int .i64 d6, .int .i64 d7]) (.int .i64 ((6 : Nat) : Int))).run Try.prog w = .ok (.int .i64 (ix [d1, d2, d3, d4, d5, d6, d7] 6)) w := by kernel_rfl
  match k, h with
  | 0, _ => exact i0
  | 1, _ => exact i1
  | 2, _ => exact i2
  | 3, _ => exact i3
  | 4, _ => exact i4
  | 5, _ => exact i5
  | 6, _ => exact i6
/-- Does p hold of all places below k? -/
def allTo (p : Nat → Bool) (k : Nat) : Bool := (List.range k).all p
theorem allTo_iff {p : Nat → Bool} {k : Nat} : allTo p k = true ↔ ∀ j, j < k → p j = true := by
  unfold allTo
  rw [List.all_eq_true]
  exact ⟨fun h j hj => h j (List.mem_range.2 hj), fun h j hj => h j (List.mem_range.1 hj)⟩
theorem allTo_succ {p : Nat → Bool} {k : Nat} (h : allTo p k = true) (hk : p k = true) : allTo p (k + 1) = true := by
  rw [allTo_iff] at h ⊢
  intro j hj
  rcases Nat.lt_or_ge j k with h1 | h1
  · exact h j h1
  · obtain rfl : j = k := by omega
    exact hk
theorem allTo_not {p : Nat → Bool} {k m : Nat} (hk : p k = false) (h : k < m) : allTo p m = false := by
  rw [← Bool.not_eq_true, allTo_iff]
  intro hall
  rw [hall k h] at hk
  cases hk
theorem allTo_zero {p : Nat → Bool} : allTo p 0 = true := rfl
/-- May it be a slot that is depended on? -/
def slotB (n : Int) : Bool := decide (0 ≤ n) && decide (n ≤ 1073741824)
def okAt (d : List Int) (k : Nat) : Bool := slotB (ix d k)
def rightD (d : List Int) : Bool := allTo (okAt d) 7
def rightA (s : Int) (d : List Int) : Bool := decide (0 ≤ s) && decide (s ≤ 1099511627776) && rightD d
def covAt (a b : List Int) (k : Nat) : Bool := decide (ix b k ≤ ix a k)
def coversB (a b : List Int) : Bool := allTo (covAt a b) 7
theorem slot_low {n : Int} (h : n < 0) : slotB n = false := by unfold slotB; simp; omega
theorem slot_high {n : Int} (h : 1073741824 < n) : slotB n = false := by unfold slotB; simp; omega
theorem slot_ok {n : Int} (h : ¬ n < 0) (h1 : ¬ 1073741824 < n) : slotB n = true := by unfold slotB; simp; omega
/-- A row of slots in a block of its own, place by place. -/
theorem row_ix {w : World} {g : Nat} {t : TypeId} {d1 d2 d3 d4 d5 d6 d7 : Int} (h : Row w g t #[.int .i64 d1, .int .i64 d2, .int .i64 d3, .int .i64 d4, .int .i64 d5, .int .i64 d6, .int .i64 d7]) (k : Nat) (hk : k < 7) : w.cell? ⟨g, k, none⟩ = some (.int .i64 (ix [d1, d2, d3, d4, d5, d6, d7] k)) := by
  rw [h.cell]
  match k, hk with
  | 0, _ => rfl
  | 1, _ => rfl
  | 2, _ => rfl
  | 3, _ => rfl
  | 4, _ => rfl
  | 5, _ => rfl
  | 6, _ => rfl
theorem rightD_any (d1 d2 d3 d4 d5 d6 d7 : Int) (w : World) : Calls Try.prog 32 #[.agg #[.int .i64 d1, .int .i64 d2, .int .i64 d3, .int .i64 d4, .int .i64 d5, .int .i64 d6, .int .i64 d7]] w fun e w' => e = .returned (.bool (rightD [d1, d2, d3, d4, d5, d6, d7])) ∧ Below w.heap.size w w' := by
  have R := hide (Row.new w 23 #[.int .i64 d1, .int .i64 d2, .int .i64 d3, .int .i64 d4, .int .i64 d5, .int .i64 d6, .int .i64 d7])
  go_enter Try.func32, Try.ntmps32
  go_wp2
  go_loop [3] (fun i => ∃ k : Nat, k ≤ 7 ∧ i = .int .i64 k ∧ Hid (allTo (okAt [d1, d2, d3, d4, d5, d6, d7]) k = true)) (fun i => 7 - (intOf i).toNat)
  case atStart => exact ⟨0, by omega, rfl, allTo_zero⟩
  case round =>
    obtain ⟨k, hk, rfl, hall⟩ := hrel
    by_cases hlt : k < 7
    · have hc := row_ix R.out k hlt
      have hp : ∀ b, slotB (ix [d1, d2, d3, d4, d5, d6, d7] k) = b → okAt [d1, d2, d3, d4, d5, d6, d7] k = b := fun _ h => h
      have HP := hide hp
      clear hp
      generalize ix [d1, d2, d3, d4, d5, d6, d7] k = x at hc HP
      by_cases h0 : x < 0
      · have hn := hide (allTo_not (HP.out _ (slot_low h0)) hlt)
        go_wp2
        go_ret
        exact ⟨ret_bool hn.out.symm, (Below.refl _ _).alloc (Nat.le_refl _) _⟩
      · by_cases h1 : 1073741824 < x
        · have hn := hide (allTo_not (HP.out _ (slot_high h1)) hlt)
          go_wp2
          go_ret
          exact ⟨ret_bool hn.out.symm, (Below.refl _ _).alloc (Nat.le_refl _) _⟩
        · have hn := hide (allTo_succ hall.out (HP.out _ (slot_ok h0 h1)))
          go_wp2
          go_round
          case rel => exact ⟨k + 1, by omega, by go_num, hn⟩
          case measure => simp [intOf]; omega
    · obtain rfl : k = 7 := by omega
      go_wp2
      go_ret
      exact ⟨ret_bool hall.out.symm, (Below.refl _ _).alloc (Nat.le_refl _) _⟩
set_option maxHeartbeats 400000 in
theorem rightA_any (a0 a1 a2 a3 a4 a5 a6 a7 : Int) (w : World) : Calls Try.prog 18 #[.agg #[.int .i64 a0, .int .i64 a1, .int .i64 a2, .int .i64 a3, .int .i64 a4, .int .i64 a5, .int .i64 a6, .int .i64 a7]] w fun e w' =>
    e = .returned (.bool (rightA a0 [a1, a2, a3, a4, a5, a6, a7])) ∧ Below w.heap.size w w' := by
  go_enter Try.func18, Try.ntmps18
  go_wp2
  go_loop [7] (fun i => ∃ k : Nat, k ≤ 7 ∧ i = .int .i64 k ∧ Hid (allTo (okAt [a1, a2, a3, a4, a5, a6, a7]) k = true)) (fun i => 7 - (intOf i).toNat)
  case atStart => exact ⟨0, by omega, rfl, allTo_zero⟩
  case round =>
    obtain ⟨k, hk, rfl, hall⟩ := hrel
    by_cases hlt : k < 7
    · have hc := index_deps a1 a2 a3 a4 a5 a6 a7 k hlt
      have hp : ∀ b, slotB (ix [a1, a2, a3, a4, a5, a6, a7] k) = b → okAt [a1, a2, a3, a4, a5, a6, a7] k = b := fun _ h => h
      have HP := hide hp
      clear hp
      generalize ix [a1, a2, a3, a4, a5, a6, a7] k = x at hc HP
      by_cases h0 : x < 0
      · have hn := hide (allTo_not (HP.out _ (slot_low h0)) hlt)
        go_wp2
        go_ret
        exact ⟨ret_bool (by unfold rightA rightD; rw [hn.out, Bool.and_false]), (Below.refl _ _).alloc (Nat.le_refl _) _⟩
      · by_cases h1 : 1073741824 < x
        · have hn := hide (allTo_not (HP.out _ (slot_high h1)) hlt)
          go_wp2
          go_ret
          exact ⟨ret_bool (by unfold rightA rightD; rw [hn.out, Bool.and_false]), (Below.refl _ _).alloc (Nat.le_refl _) _⟩
        · have hn := hide (allTo_succ hall.out (HP.out _ (slot_ok h0 h1)))
          go_wp2
          go_round
          case rel => exact ⟨k + 1, by omega, by go_num, hn⟩
          case measure => simp [intOf]; omega
    · obtain rfl : k = 7 := by omega
      go_wp2
      all_goals
        go_ret
        exact ⟨ret_bool (by unfold rightA rightD; rw [hall.out]; first | (simp [*]; done) | (simp [*] <;> omega)), (Below.refl _ _).alloc (Nat.le_refl _) _⟩
theorem rightAttr_any (a0 a1 a2 a3 a4 a5 a6 a7 : Int) (w : World) : Calls Try.prog 19 #[.agg #[.int .i64 a0, .int .i64 a1, .int .i64 a2, .int .i64 a3, .int .i64 a4, .int .i64 a5, .int .i64 a6, .int .i64 a7]] w fun e w' =>
    e = .returned (.bool (rightA a0 [a1, a2, a3, a4, a5, a6, a7])) ∧ Below w.heap.size w w' := by
  have hr := fun w => rightD_any a1 a2 a3 a4 a5 a6 a7 w
  unfold rightA
  generalize rightD [a1, a2, a3, a4, a5, a6, a7] = b at hr ⊢
  go_enter Try.func19, Try.ntmps19
  go_wp2_with (go_at_call 32; refine (hr _).mono ?_; rintro e w' ⟨rfl, hb⟩)
  all_goals
    go_ret
    first
    | exact ⟨ret_bool (by first | (simp [*]; done) | (simp [*] <;> omega)), ((Below.refl _ _).alloc (Nat.le_refl _) _).trans (hb.mono (by simp))⟩
    | exact ⟨ret_bool (by first | (simp [*]; done) | (simp [*] <;> omega)), (Below.refl _ _).alloc (Nat.le_refl _) _⟩
set_option maxHeartbeats 400000 in
theorem covers_any (a1 a2 a3 a4 a5 a6 a7 b1 b2 b3 b4 b5 b6 b7 : Int) (w : World) : Calls Try.prog 21 #[.agg #[.int .i64 a1, .int .i64 a2, .int .i64 a3, .int .i64 a4, .int .i64 a5, .int .i64 a6, .int .i64 a7], .agg #[.int .i64 b1, .int .i64 b2, .int .i64 b3, .int .i64 b4, .int .i64 b5, .int .i64 b6, .int .i64 b7]] w fun e w' =>
    e = .returned (.bool (coversB [a1, a2, a3, a4, a5, a6, a7] [b1, b2, b3, b4, b5, b6, b7])) ∧ Below w.heap.size w w' := by
  have R := hide ((Row.new w 23 #[.int .i64 a1, .int .i64 a2, .int .i64 a3, .int .i64 a4, .int .i64 a5, .int .i64 a6, .int .i64 a7]).alloc (.cells #[.int .i64 b1, .int .i64 b2, .int .i64 b3, .int .i64 b4, .int .i64 b5, .int .i64 b6, .int .i64 b7] 23))
  have hb := hide (show Below w.heap.size w ((w.alloc (.cells #[.int .i64 a1, .int .i64 a2, .int .i64 a3, .int .i64 a4, .int .i64 a5, .int .i64 a6, .int .i64 a7] 23)).alloc (.cells #[.int .i64 b1, .int .i64 b2, .int .i64 b3, .int .i64 b4, .int .i64 b5, .int .i64 b6, .int .i64 b7] 23)) from ((Below.refl _ _).alloc (Nat.le_refl _) _).alloc (by simp) _)
  go_enter Try.func21, Try.ntmps21
  go_wp2
  go_loop [8] (fun i => ∃ k : Nat, k ≤ 7 ∧ i = .int .i64 k ∧ Hid (allTo (covAt [a1, a2, a3, a4, a5, a6, a7] [b1, b2, b3, b4, b5, b6, b7]) k = true)) (fun i => 7 - (intOf i).toNat)
  case atStart => exact ⟨0, by omega, rfl, allTo_zero⟩
  case round =>
    obtain ⟨k, hk, rfl, hall⟩ := hrel
    by_cases hlt : k < 7
    · have hc := row_ix R.out k hlt
      have hi := index_deps b1 b2 b3 b4 b5 b6 b7 k hlt
      have hp : ∀ b, decide (ix [b1, b2, b3, b4, b5, b6, b7] k ≤ ix [a1, a2, a3, a4, a5, a6, a7] k) = b → covAt [a1, a2, a3, a4, a5, a6, a7] [b1, b2, b3, b4, b5, b6, b7] k = b := fun _ h => h
      have HP := hide hp
      clear hp
      generalize ix [a1, a2, a3, a4, a5, a6, a7] k = x at hc HP
      generalize ix [b1, b2, b3, b4, b5, b6, b7] k = y at hi HP
      by_cases h0 : x < y
      · have hn := hide (allTo_not (HP.out false (by simp; omega)) hlt)
        go_wp2
        go_ret
        exact ⟨ret_bool hn.out.symm, hb.out⟩
      · have hn := hide (allTo_succ hall.out (HP.out true (by simp; omega)))
        go_wp2
        go_round
        case rel => exact ⟨k + 1, by omega, by go_num, hn⟩
        case measure => simp [intOf]; omega
    · obtain rfl : k = 7 := by omega
      go_wp2
      go_ret
      exact ⟨ret_bool hall.out.symm, hb.out⟩
/-- Does a row of slots reach an instance? -/
def reachB (d : List Int) (r s : Int) : Bool := rightI r s && decide (s ≤ ix d r.toNat)
theorem rightI_says {r s : Int} (h : rightI r s = true) : (0 ≤ r ∧ r < 7) ∧ 1 ≤ s ∧ s ≤ 1073741824 := by
  unfold rightI repB at h
  simp only [Bool.and_eq_true, decide_eq_true_eq] at h
  omega
end Go.Proofs.Ytpngcocmjbkfgaa
