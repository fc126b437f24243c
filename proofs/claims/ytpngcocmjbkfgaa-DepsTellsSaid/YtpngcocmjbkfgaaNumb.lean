/- What Num, Text and Flag come to, package pack's and the document's own. Conditions: the slice lies in memory and holds bytes, lengths have room. -/
import Derived.Test.YtpngcocmjbkfgaaZig
import Derived.Test.YtpngcocmjbkfgaaSame
import Derived.LoopTactic
import Derived.Lib.AppendStr
import Derived.Deep.DeepCutAuto
namespace Go.Proofs.Ytpngcocmjbkfgaa
open Go.RowKit
/-- append of a slice that lies anywhere onto a row that has room for it. -/
theorem lies_fits {w : World} {A : Option Addr} {zs : List Int} (h : Lies w A zs) : ∀ ad : Addr, A = some ad → ∀ j u, (cellsOf zs)[j]? = some u → w.cell? (ad.add j) = some u := by
  rintro ad rfl j u hj
  obtain ⟨hk, _⟩ := cellsOf_some hj
  obtain ⟨b, off, e, _⟩ := h (by omega)
  injection e with e
  subst e
  exact Lies.cells h j u hj
theorem low7_to {v q : Nat} (w : World) (h : v < 18446744073709551616) (hq : v % 128 = q) :
    Calls Try.prog 42 #[.int .u64 v, .int .i64 7] w fun e w' => e = .returned (.int .u64 (q : Nat)) ∧ w = w' := by
  subst hq; exact low7_any v w h
theorem room_of {f v : Nat} (hf : f ≤ 9) (h : v < 2 * 128 ^ f) : v < 18446744073709551616 := by
  have := pow128_le hf; omega
theorem room_start {m : Int} (h0 : -9223372036854775808 ≤ m) (h1 : m ≤ 9223372036854775807) : zigN m < 2 * 128 ^ 9 := by
  have := zigN_lt m h0 h1; rw [pow128_9]; omega
theorem room_step {f v : Nat} (h : v < 2 * 128 ^ f) (hv : 128 ≤ v) : ∃ g, f = g + 1 ∧ v / 128 < 2 * 128 ^ g := by
  match f with
  | 0 => simp at h; omega
  | g + 1 => exact ⟨g, rfl, by rw [Nat.pow_succ] at h; omega⟩
set_option maxHeartbeats 1000000 in
theorem num_any (A : Option Addr) (n c : Nat) (zs : List Int) (m : Int) (w : World) (hn : zs.length = n) (hz : Lies w A zs) (hc : A = none → c = 0) (ln : n ≤ 140737488355310) (m0 : -9223372036854775808 ≤ m) (m1 : m ≤ 9223372036854775807) :
    Calls Try.prog 34 #[.slice A n c, .int .i64 m] w fun e w' =>
      ∃ v, e = .returned v ∧ w'.ownsRow w.heap.size 5 1 v (n + (num7 m).length) (cellsOf (zs ++ num7 m)) ∧ Below w.heap.size w w' := by
  subst hn
  obtain ⟨i0, hi, hz0, hz1, hz2⟩ := info_parts Try.info5
  have hc' := hide hc
  clear hc
  go_enter Try.func34, Try.ntmps34
  go_wp2_with (at_make; refine wpList_make_own _ rfl _ _ 48 rfl w.heap.size 5 i0 (.int .u8 0) 1 Try.underlying48 hi hz0 hz1 _ _ _ (zs.length + 10) rfl rfl (by omega) ?b2 ?b3 (Nat.le_refl _) ?_)
  case b2 => rw [hz2]; omega
  case b3 => unfold maxLen; omega
  intro w0 hown0 hgrow0
  have hb0 : Below w.heap.size w w0 := (Below.refl _ _).grown hgrow0 (Nat.le_refl _) (fun k h => by cases h)
  have hz0' := hide (hz.below hb0)
  go_wp2_with (at_builtin; refine wpList_append_fits_any _ rfl (.tmp 11) (.tmp 12) 48 rfl w.heap.size 5 i0 1 Try.underlying48 hi hz1 w.heap.size 0 (zs.length + 10) [] rfl hown0 A zs.length c (cellsOf zs) rfl ?d1 ?d2 ?d3 cellsOf_one (by omega) ?_)
  case d1 => rw [length_cellsOf]; omega
  case d2 => intro h; exact ⟨Lies.nil_ hz0'.out h, hc'.out h⟩
  case d3 => exact lies_fits hz0'.out
  intro w1 hown1 hgrow1
  have hb1 : Below w.heap.size w w1 := hb0.grown hgrow1 hb0.size (fun k h => by cases h; exact Nat.le_refl _)
  clear hz0' hown0 hgrow0 hgrow1 hb0 hz hc'
  go_wp2_with (go_at_call 41; (with_reducible refine (zig_any m _ m0 m1).mono ?_); rintro e w2 ⟨rfl, rfl⟩)
  go_loopw [5, 6] (fun s u wr => ∃ (f v : Nat) (p : List Int), u = .int .u64 v ∧ s = .slice (some ⟨w.heap.size, 0, none⟩) (zs.length + p.length) (zs.length + 10) ∧ p.length + f = 9 ∧ Hid (v < 2 * 128 ^ f) ∧ Hid (num7 m = p ++ sev (f + 1) v) ∧
      wr.ownsRow w.heap.size 5 1 (.slice (some ⟨w.heap.size, 0, none⟩) (zs.length + p.length) (zs.length + 10)) (zs.length + p.length) (cellsOf (zs ++ p)) ∧ Below w.heap.size w wr) (fun _ u _ => (intOf u).toNat)
  case atStart => exact ⟨9, zigN m, [], rfl, rfl, rfl, hide (room_start m0 m1), hide rfl, by simpa using hown1, hb1⟩
  case round =>
    clear hown1 hb1
    obtain ⟨f, v, p, rfl, rfl, hf, hv, hs, hown, hb⟩ := hrel
    have hvl := hide (room_of (by omega) hv.out)
    have hp9 : p.length ≤ 9 := by omega
    by_cases hlt : 128 ≤ v
    · obtain ⟨g, rfl, hg⟩ := room_step hv.out hlt
      have hg' := hide hg
      clear hg hv
      obtain ⟨q, hq⟩ : ∃ q, v % 128 = q := ⟨_, rfl⟩
      have hq1 : q ≤ 127 := by omega
      have hor : bits .or .u64 (q : Int) 128 = (q : Int) + 128 := by rw [or_128 q (by omega)]; rfl
      have hs' : Hid (num7 m = (p ++ [(q : Int) + 128]) ++ sev (g + 1) (v / 128)) := hide (by rw [hs.out, sev_more hlt, hq]; simp)
      have hq' := hide hq
      have hf' := hide hf
      have ht : decide ((128 : Int) ≤ (v : Int)) = true := by rw [decide_eq_true_iff]; omega
      have hlt' := hide hlt
      clear hq hs hf hlt
      go_wp2_with (first
        | (go_at_call 42; (with_reducible refine (low7_to _ hvl.out hq'.out).mono ?_); rintro e w3 ⟨rfl, rfl⟩)
        | (at_builtin; refine wpList_append_fits _ rfl (.tmp 20) (.tmp 25) 48 rfl w.heap.size 5 i0 1 Try.underlying48 hi hz1 w.heap.size (zs.length + p.length) (zs.length + 10) _ rfl (hown.alloc _) ⟨wr.heap.size, 0, none⟩ 1 1 [.int .u8 ((q : Int) + 128)] rfl rfl (by exact cell_one_new _ _ _) (by intro v hv; simp at hv; subst hv; rfl) (by omega) ?_; intro w2 hown2 hgrow2; have hb2 : Below w.heap.size w w2 := (hb.alloc hb.size _).grown hgrow2 (by simp; have := hb.size; omega) (fun k hk => by cases hk; exact Nat.le_refl _); clear hgrow2 hb hown))
      go_roundw
      case rel => exact ⟨g, v / 128, p ++ [(q : Int) + 128], by go_num, by simp [Nat.add_assoc], by have := hf'.out; simp; omega, hg', hs', by simpa [cellsOf, Nat.add_assoc] using hown2, hb2⟩
      case measure => have := hlt'.out; simp [intOf]; omega
    · have hf' := hide hf
      have ht : decide ((128 : Int) ≤ (v : Int)) = false := by rw [decide_eq_false_iff_not]; omega
      have hvv : (v : Int) ≤ 127 := by omega
      have hs' := hide (show num7 m = p ++ [(v : Int)] by rw [hs.out, sev_last (by omega)])
      clear hf hlt hs hv
      go_wp2_with (first
        | (at_builtin; refine wpList_append_fits _ rfl (.tmp 27) (.tmp 30) 48 rfl w.heap.size 5 i0 1 Try.underlying48 hi hz1 w.heap.size (zs.length + p.length) (zs.length + 10) _ rfl (hown.alloc _) ⟨wr.heap.size, 0, none⟩ 1 1 [.int .u8 (v : Int)] rfl rfl (by exact cell_one_new _ _ _) (by intro v hv; simp at hv; subst hv; rfl) (by omega) ?_; intro w2 hown2 hgrow2; have hb2 : Below w.heap.size w w2 := (hb.alloc hb.size _).grown hgrow2 (by simp; have := hb.size; omega) (fun k hk => by cases hk; exact Nat.le_refl _); clear hgrow2 hb hown))
      go_ret
      refine ⟨_, rfl, ?_, hb2⟩
      rw [hs'.out]
      simpa [cellsOf, Nat.add_assoc] using hown2
/-- A string's bytes. -/
def strL (s : ByteArray) : List Int := s.data.toList.map fun b => (b.toNat : Int)
theorem length_strL (s : ByteArray) : (strL s).length = s.size := by unfold strL; rw [List.length_map]; rfl
theorem octets_strL (s : ByteArray) : Octets (strL s) := fun z hz => by
  unfold strL at hz
  obtain ⟨b, _, rfl⟩ := List.mem_map.1 hz
  have := b.toNat_lt
  omega
theorem cells_strL (s : ByteArray) : cellsOf (strL s) = Go.Lib.strCells s := by
  unfold cellsOf strL Go.Lib.strCells; rw [List.map_map]; rfl
/-- A text's bytes. -/
def text7 (s : ByteArray) : List Int := num7 s.size ++ strL s
theorem text7_len (s : ByteArray) : (text7 s).length = (num7 s.size).length + s.size := by unfold text7; rw [List.length_append, length_strL]
end Go.Proofs.Ytpngcocmjbkfgaa
