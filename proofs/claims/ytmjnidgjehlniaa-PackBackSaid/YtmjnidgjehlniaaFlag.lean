/- What Flag comes to, package pack's and the document's own, and word's Put and Get of one byte. Conditions: the slice lies in memory and holds bytes, lengths have room. -/
import Derived.Test.YtmjnidgjehlniaaNumb
namespace Go.Proofs.Ytmjnidgjehlniaa
open Go.RowKit
theorem shl_zero (z : Int) (h0 : 0 ≤ z) (h1 : z ≤ 255) : bits .or .u64 0 z = z := by
  obtain ⟨Z, rfl⟩ := Int.eq_ofNat_of_zero_le h0
  have e := u64_or_nat 0 Z (by omega) (by omega)
  refine e.trans ?_
  rw [Nat.zero_or]
set_option maxHeartbeats 1000000 in
theorem put1_any (A : Option Addr) (n c : Nat) (zs : List Int) (u : Int) (w : World) (hn : zs.length = n) (hz : Lies w A zs) (hc : A = none → c = 0) (ln : n ≤ 140737488355310) (u0 : 0 ≤ u) (u1 : u ≤ 255) :
    Calls Try.prog 48 #[.slice A n c, .int .i64 1, .int .u64 u] w fun e w' =>
      ∃ v, e = .returned v ∧ w'.ownsRow w.heap.size 5 1 v (n + 1) (cellsOf (zs ++ [u])) ∧ Below w.heap.size w w' := by
  subst hn
  obtain ⟨i0, hi, hz0, hz1, hz2⟩ := info_parts Try.info5
  have hc' := hide hc
  clear hc
  go_enter Try.func48, Try.ntmps48
  go_wp2_with (at_make; refine wpList_make_own _ rfl _ _ 23 rfl w.heap.size 5 i0 (.int .u8 0) 1 Try.underlying23 hi hz0 hz1 _ _ _ (zs.length + 1) rfl rfl (by omega) ?b2 ?b3 (Nat.le_refl _) ?_)
  case b2 => rw [hz2]; omega
  case b3 => unfold maxLen; omega
  intro w0 hown0 hgrow0
  have hb0 : Below w.heap.size w w0 := (Below.refl _ _).grown hgrow0 (Nat.le_refl _) (fun k h => by cases h)
  have hz0' := hide (hz.below hb0)
  go_wp2_with (at_builtin; refine wpList_append_fits_any _ rfl (.tmp 17) (.tmp 18) 23 rfl w.heap.size 5 i0 1 Try.underlying23 hi hz1 w.heap.size 0 (zs.length + 1) [] rfl hown0 A zs.length c (cellsOf zs) rfl ?d1 ?d2 ?d3 cellsOf_one (by omega) ?_)
  case d1 => rw [length_cellsOf]; omega
  case d2 => intro h; exact ⟨Lies.nil_ hz0'.out h, hc'.out h⟩
  case d3 => exact lies_fits hz0'.out
  intro w1 hown1 hgrow1
  have hb1 : Below w.heap.size w w1 := hb0.grown hgrow1 hb0.size (fun k h => by cases h; exact Nat.le_refl _)
  clear hz0' hown0 hgrow0 hgrow1 hb0 hz hc'
  go_wp2
  go_loopw [7, 21] (fun s i wr => ∃ k : Nat, k ≤ 1 ∧ i = .int .i64 k ∧ s = .slice (some ⟨w.heap.size, 0, none⟩) (zs.length + k) (zs.length + 1) ∧
      wr.ownsRow w.heap.size 5 1 (.slice (some ⟨w.heap.size, 0, none⟩) (zs.length + k) (zs.length + 1)) (zs.length + k) (cellsOf (zs ++ [u].take k)) ∧ Below w.heap.size w wr) (fun _ i _ => 1 - (intOf i).toNat)
  case atStart => exact ⟨0, by omega, rfl, rfl, by simpa using hown1, hb1⟩
  case round =>
    clear hown1 hb1
    obtain ⟨k, hk, rfl, rfl, hown, hb⟩ := hrel
    by_cases hlt : k < 1
    · obtain rfl : k = 0 := by omega
      go_wp2_with (first
        | (at_builtin; refine wpList_append_fits _ rfl (.tmp 24) (.tmp 30) 23 rfl w.heap.size 5 i0 1 Try.underlying23 hi hz1 w.heap.size zs.length (zs.length + 1) _ rfl (hown.alloc _) ⟨wr.heap.size, 0, none⟩ 1 1 [.int .u8 u] rfl rfl (by exact cell_one_new _ _ _) (by intro v hv; simp at hv; subst hv; rfl) (by omega) ?_; intro w2 hown2 hgrow2; have hb2 : Below w.heap.size w w2 := (hb.alloc hb.size _).grown hgrow2 (by simp; have := hb.size; omega) (fun k hk => by cases hk; exact Nat.le_refl _); clear hgrow2 hb hown))
      go_roundw
      case rel => exact ⟨1, by omega, rfl, rfl, by simpa [cellsOf] using hown2, hb2⟩
      case measure => simp [intOf]
    · obtain rfl : k = 1 := by omega
      go_wp2
      go_ret
      exact ⟨_, rfl, by simpa using hown, hb⟩
set_option maxHeartbeats 1000000 in
theorem flag_any (A : Option Addr) (n c : Nat) (zs : List Int) (f : Bool) (w : World) (hn : zs.length = n) (hz : Lies w A zs) (hc : A = none → c = 0) (ln : n ≤ 140737488355310) :
    Calls Try.prog 35 #[.slice A n c, .bool f] w fun e w' =>
      ∃ v, e = .returned v ∧ w'.ownsRow w.heap.size 5 1 v (n + 1) (cellsOf (zs ++ [if f then 1 else 0])) ∧ Below w.heap.size w w' := by
  have hc' := hide hc
  have hn' := hide hn
  clear hc hn
  cases f
  · go_enter Try.func35, Try.ntmps35
    go_wp2_with (go_at_call 48; (with_reducible refine (put1_any A n c zs _ w hn'.out hz hc'.out ln (by omega) (by omega)).mono ?_); rintro e w1 ⟨v1, rfl, hown1, hb1⟩)
    go_ret
    exact ⟨_, rfl, hown1, hb1⟩
  · go_enter Try.func35, Try.ntmps35
    go_wp2_with (go_at_call 48; (with_reducible refine (put1_any A n c zs _ w hn'.out hz hc'.out ln (by omega) (by omega)).mono ?_); rintro e w1 ⟨v1, rfl, hown1, hb1⟩)
    go_ret
    exact ⟨_, rfl, hown1, hb1⟩
set_option maxHeartbeats 1000000 in
theorem rflag_any (A : Option Addr) (n c : Nat) (zs : List Int) (f : Bool) (w : World) (hn : zs.length = n) (hz : Lies w A zs) (hc : A = none → c = 0) (ln : n ≤ 140737488355310) :
    Calls Try.prog 18 #[.slice A n c, .bool f] w fun e w' =>
      ∃ v, e = .returned v ∧ w'.ownsRow w.heap.size 5 1 v (n + 1) (cellsOf (zs ++ [if f then 1 else 0])) ∧ Below w.heap.size w w' := by
  subst hn
  obtain ⟨i0, hi, hz0, hz1, hz2⟩ := info_parts Try.info5
  have hc' := hide hc
  clear hc
  have hown0 := World.ownsRow_lit (base := w.heap.size) (e := 5) (size := 1) w #[] 0 (Nat.le_refl _) (by unfold maxLen; omega) rfl
  have hz' := hide (hz.alloc (.cells #[] 5))
  cases f
  · go_enter Try.func18, Try.ntmps18
    go_wp2_with (first
      | (at_builtin; refine wpList_append_lies rfl (.tmp 7) (.tmp 8) 23 rfl w.heap.size 5 i0 _ Try.underlying23 hi hz0 hz1 hz2 rfl _ 0 [] rfl hown0 A zs.length c zs rfl rfl hc'.out hz'.out (by omega) (by simp) ?_; intro v1 w1 hown1 hb1; simp only [Nat.zero_add, List.nil_append] at hown1; have hb1' : Below w.heap.size w w1 := ((Below.refl _ _).alloc (Nat.le_refl _) _).trans hb1; clear hb1 hown0 hz' hz hc')
      | (at_builtin; refine wpList_append_lies rfl (.tmp 9) (.tmp 11) 23 rfl w.heap.size 5 i0 _ Try.underlying23 hi hz0 hz1 hz2 rfl _ zs.length zs rfl (hown1.alloc _) (some ⟨w1.heap.size, 0, none⟩) 1 1 [0] rfl rfl (by intro h; cases h) (by exact lies_one _ _ _) (by omega) (by have := hb1'.size; simp; omega) ?_; intro v2 w2 hown2 hb2; have hb2' : Below w.heap.size w w2 := (hb1'.alloc hb1'.size _).trans hb2; clear hb2 hb1' hown1))
    go_ret
    exact ⟨_, rfl, hown2, hb2'⟩
  · go_enter Try.func18, Try.ntmps18
    go_wp2_with (first
      | (at_builtin; refine wpList_append_lies rfl (.tmp 7) (.tmp 8) 23 rfl w.heap.size 5 i0 _ Try.underlying23 hi hz0 hz1 hz2 rfl _ 0 [] rfl hown0 A zs.length c zs rfl rfl hc'.out hz'.out (by omega) (by simp) ?_; intro v1 w1 hown1 hb1; simp only [Nat.zero_add, List.nil_append] at hown1; have hb1' : Below w.heap.size w w1 := ((Below.refl _ _).alloc (Nat.le_refl _) _).trans hb1; clear hb1 hown0 hz' hz hc')
      | (at_builtin; refine wpList_append_lies rfl (.tmp 9) (.tmp 11) 23 rfl w.heap.size 5 i0 _ Try.underlying23 hi hz0 hz1 hz2 rfl _ zs.length zs rfl (hown1.alloc _) (some ⟨w1.heap.size, 0, none⟩) 1 1 [1] rfl rfl (by intro h; cases h) (by exact lies_one _ _ _) (by omega) (by have := hb1'.size; simp; omega) ?_; intro v2 w2 hown2 hb2; have hb2' : Below w.heap.size w w2 := (hb1'.alloc hb1'.size _).trans hb2; clear hb2 hb1' hown1))
    go_ret
    exact ⟨_, rfl, hown2, hb2'⟩
/-- The one byte that Get reads. -/
def get1V (zs : List Int) (i : Nat) : Int := if i < zs.length then ix zs i else 0
def get1E (zs : List Int) (i : Nat) : Int := if i < zs.length then 0 else 3
set_option maxHeartbeats 1000000 in
theorem get1_any (A : Option Addr) (n c : Nat) (zs : List Int) (i : Nat) (w : World) (hn : zs.length = n) (hz : Lies w A zs) (ho : Octets zs) (ln : n ≤ 4611686018427387904) (hi : i ≤ n) :
    Calls Try.prog 46 #[.slice A n c, .int .i64 i, .int .i64 1] w fun e w' => e = .returned (.tuple #[.int .u64 (get1V zs i), .int .i64 (get1E zs i)]) ∧ w = w' := by
  subst hn
  by_cases h : i < zs.length
  · have e1 : get1V zs i = ix zs i := by unfold get1V; rw [if_pos h]
    have e2 : get1E zs i = 0 := by unfold get1E; rw [if_pos h]
    rw [e1, e2]
    clear e1 e2
    obtain ⟨b1, o1, rfl, _, hc1⟩ := hz.at_ (k := i) h
    have o := ho.ix i
    obtain ⟨p0, p1⟩ := o
    have hor := hide (shl_zero (ix zs i) p0 p1)
    have HZ := hide hz; have HO := hide ho; clear hz ho
    have h2 : ¬ ((zs.length : Int) - (i : Int) < 1) := by omega
    have h3 : ¬ ((zs.length : Int) < (i : Int)) := by omega
    go_enter Try.func46, Try.ntmps46
    go_wp2
    go_loop [8, 33] (fun u j => ∃ k : Nat, k ≤ 1 ∧ j = .int .i64 k ∧ u = .int .u64 (if k = 0 then 0 else ix zs i)) (fun _ j => 1 - (intOf j).toNat)
    case atStart => exact ⟨0, by omega, rfl, rfl⟩
    case round =>
      obtain ⟨k, hk, rfl, rfl⟩ := hrel
      by_cases hlt : k < 1
      · obtain rfl : k = 0 := by omega
        have hcl := hide hc1
        go_wp2
        go_round
        case rel => exact ⟨1, by omega, rfl, by rw [if_neg (by omega)]; exact congrArg _ hor.out⟩
        case measure => simp [intOf]
      · obtain rfl : k = 1 := by omega
        go_wp2
        go_ret2
        exact ⟨rfl, rfl⟩
  · have e1 : get1V zs i = 0 := by unfold get1V; rw [if_neg h]
    have e2 : get1E zs i = 3 := by unfold get1E; rw [if_neg h]
    rw [e1, e2]
    clear e1 e2
    obtain rfl : i = zs.length := by omega
    have h2 : (zs.length : Int) - (zs.length : Int) < 1 := by omega
    go_enter Try.func46, Try.ntmps46
    go_wp2
    go_ret2
    exact ⟨rfl, rfl⟩
end Go.Proofs.Ytmjnidgjehlniaa
