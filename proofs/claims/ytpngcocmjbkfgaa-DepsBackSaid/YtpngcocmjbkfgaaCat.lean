/- What slices.Grow of nothing, and slices.Concat of two slices of bytes, come to. Conditions: the slices lie in memory, their lengths have room. -/
import Derived.Test.YtpngcocmjbkfgaaUse
import Derived.Lib.AppendZerosOnto
import Derived.LoopTactic
namespace Go.Proofs.Ytpngcocmjbkfgaa
open Go.RowKit
set_option maxRecDepth 100000 in
set_option maxHeartbeats 2000000 in
theorem grow_nil (n : Nat) (w : World) (ln : n ≤ 140737488355328) :
    Calls Try.prog 43 #[.slice none 0 0, .int .i64 n] w fun e w' => ∃ v, e = .returned v ∧ w'.ownsRow w.heap.size 5 1 v 0 (cellsOf []) ∧ Below w.heap.size w w' := by
  rcases Nat.eq_zero_or_pos n with h0 | h0
  · subst h0
    go_enter Try.func43, Try.ntmps43
    go_wp2
    go_ret
    exact ⟨_, rfl, ⟨rfl, .inl ⟨rfl, rfl⟩⟩, Below.refl _ _⟩
  · obtain ⟨i0, hi, hz0, hz1, hz2⟩ := info_parts Try.info5
    have hrz := fun ty => Lib.run_append_nil_zeros w 48 3 ty 5 i0 _ .i64 .i64 Try.underlying48 Try.underlying3 hi hz0 n h0 (by omega) (by omega) (by rw [hz2]; omega)
    have hcap := grownCap_le_maxLen w n 0 5 (by unfold maxLen; omega)
    have hge := grownCap_ge w n 0 5
    have hlen : ∀ k, (Builtin.zeroCells (Value.int .u8 0).cells k).size = k := by intro k; simp [Builtin.zeroCells, Value.cells]
    generalize grownCap w n 0 5 = G at *
    have hZ : (Builtin.zeroCells (Value.int .u8 0).cells n ++ Builtin.zeroCells (Value.int .u8 0).cells (G - n)).size = G := by rw [Array.size_append, hlen, hlen]; omega
    generalize Builtin.zeroCells (Value.int .u8 0).cells n ++ Builtin.zeroCells (Value.int .u8 0).cells (G - n) = Z at *
    clear hi hz0 hz1 hz2
    have hcap' := hcap
    unfold maxLen at hcap'
    go_enter Try.func43, Try.ntmps43
    go_wp2_with (at_builtin; refine Lib.wpList_append_run _ rfl _ _ _ _ rfl _ _ rfl rfl _ _ (hrz _) ?_)
    go_ret
    refine ⟨_, rfl, ⟨rfl, .inr ⟨w.heap.size, G, Z, rfl, Nat.le_refl _, ?_, by omega, hcap, by omega, rfl⟩⟩, (Below.refl _ _).drew.alloc (Nat.le_refl _) _⟩
    show (w.drew.heap.push _)[w.drew.heap.size]? = _
    rw [Array.getElem?_push, if_pos rfl]
/-- What is laid behind so many rounds. -/
def catN (n m : Nat) (k : Nat) : Nat := if k = 0 then 0 else if k = 1 then n else n + m
def catL (zs ys : List Int) (k : Nat) : List Int := if k = 0 then [] else if k = 1 then zs else zs ++ ys
/-- A row of these n bytes of the call's own. -/
def MadeO (w : World) (n : Nat) (zs : List Int) (e : Ending) (w' : World) : Prop := ∃ v, e = .returned v ∧ w'.ownsRow w.heap.size 5 1 v n (cellsOf zs) ∧ Below w.heap.size w w'
set_option maxRecDepth 100000 in
set_option maxHeartbeats 2000000 in
theorem concat_own (A B : Option Addr) (n c m d g : Nat) (zs ys : List Int) (w : World) (hn : zs.length = n) (hm : ys.length = m) (hz : Lies w A zs) (hy : Lies w B ys) (hA : A = none → c = 0) (hB : B = none → d = 0) (ln : n + m ≤ 140737488355328)
    (hg : g < w.heap.size) (c0 : w.cell? ⟨g, 0, none⟩ = some (.slice A n c)) (c1 : w.cell? ⟨g, 1, none⟩ = some (.slice B m d)) :
    Calls Try.prog 35 #[.slice (some ⟨g, 0, none⟩) 2 2] w (MadeO w (n + m) (zs ++ ys)) := by
  have hgr := grow_nil (n + m) w ln
  rw [Int.natCast_add] at hgr
  have HG := hide hgr
  clear hgr
  go_enter Try.func35, Try.ntmps35
  go_wp2
  go_loopw [3, 11] (fun u i wr => ∃ k : Nat, k ≤ 2 ∧ i = .int .i64 k ∧ u = .int .i64 (catN n m k : Nat) ∧ wr = w) (fun _ i _ => 2 - (intOf i).toNat)
  case atStart => exact ⟨0, by omega, rfl, rfl, rfl⟩
  case round =>
    obtain ⟨k, hk, rfl, rfl, hw⟩ := hrel
    have hw := hw.symm
    subst hw
    obtain rfl | rfl | rfl : k = 0 ∨ k = 1 ∨ k = 2 := by omega
    · have e0 : catN n m 0 = 0 := rfl
      rw [e0]
      go_wp2
      go_roundw
      case rel => exact ⟨1, by omega, by go_num, by simp [show catN n m 1 = n from rfl], by first | rfl | trivial⟩
      case measure => simp [intOf]
    · have e1 : catN n m 1 = n := rfl
      rw [e1]
      go_wp2
      go_roundw
      case rel => exact ⟨2, by omega, by go_num, by simp [show catN n m 2 = n + m from rfl], by first | rfl | trivial⟩
      case measure => simp [intOf]
    · have e2 : catN n m 2 = n + m := rfl
      rw [e2]
      go_wp2_with (go_at_call 43; (with_reducible refine HG.out.mono ?_); rintro e w1 ⟨v1, rfl, ho1, hb1⟩)
      have HO1 := hide ho1
      have HB1 := hide hb1
      have HZ := hide hz
      have HY := hide hy
      clear ho1 hb1 hz hy
      obtain ⟨i0, hi, hz0, hz1, hz2⟩ := info_parts Try.info5
      go_loopw [6, 27] (fun v i w2 => ∃ k : Nat, k ≤ 2 ∧ i = .int .i64 k ∧ Hid (w2.ownsRow w.heap.size 5 1 v (catN n m k) (cellsOf (catL zs ys k))) ∧ Hid (Below w.heap.size w w2)) (fun _ i _ => 2 - (intOf i).toNat)
      case atStart => exact ⟨0, by omega, rfl, HO1, HB1⟩
      case round =>
        obtain ⟨k, hk, rfl, HO, HB⟩ := hrel
        have d0 := (HB.out.cell (p := ⟨g, 0, none⟩) hg).trans c0
        have d1 := (HB.out.cell (p := ⟨g, 1, none⟩) hg).trans c1
        have hsz := HB.out.size
        obtain rfl | rfl | rfl : k = 0 ∨ k = 1 ∨ k = 2 := by omega
        · have e0 : catN n m 0 = 0 := rfl
          have f0 : catL zs ys 0 = [] := rfl
          rw [e0, f0] at HO
          go_wp2_with (at_builtin; refine wpList_append_lies rfl (.tmp 31) (.tmp 32) 48 rfl w.heap.size 5 i0 _ Try.underlying48 hi hz0 hz1 hz2 rfl _ 0 [] rfl HO.out A n c zs rfl hn hA (HZ.out.below HB.out) (by omega) hsz ?_; intro v3 w3 ho3 hb3)
          go_roundw
          case rel => exact ⟨1, by omega, by go_num, by rw [Nat.zero_add, List.nil_append] at ho3; exact ho3, HB.out.trans hb3⟩
          case measure => simp [intOf]
        · have e0 : catN n m 1 = n := rfl
          have f0 : catL zs ys 1 = zs := rfl
          rw [e0, f0] at HO
          go_wp2_with (at_builtin; refine wpList_append_lies rfl (.tmp 31) (.tmp 32) 48 rfl w.heap.size 5 i0 _ Try.underlying48 hi hz0 hz1 hz2 rfl _ n zs rfl HO.out B m d ys rfl hm hB (HY.out.below HB.out) (by omega) hsz ?_; intro v3 w3 ho3 hb3)
          go_roundw
          case rel => exact ⟨2, by omega, by go_num, ho3, HB.out.trans hb3⟩
          case measure => simp [intOf]
        · go_wp2
          go_ret
          exact ⟨_, rfl, HO.out, HB.out⟩
end Go.Proofs.Ytpngcocmjbkfgaa
