/- What the document's own Clash and Right come to. Conditions: the keys have room. -/
import Derived.Test.YtigbplmfhnamkaaDoc
namespace Go.Proofs.Ytigbplmfhnamkaa
open Go.RowKit
def rclashC (x y : Cm) : Bool := (hasC x.k && hasC y.k) && (x.c == y.c || ((writesC x.k || writesC y.k) && rmeetB (loC x) (hiC x) (loC y) (hiC y)))
set_option maxRecDepth 100000 in
set_option maxHeartbeats 8000000 in
theorem rclash_any (k c q : Int) (a b o v : ByteArray) (k' c' q' : Int) (a' b' o' v' : ByteArray) (w : World) (ha : a.size ≤ 140737488355328) (ha' : a'.size ≤ 140737488355328) :
    Calls Try.prog 19 #[.agg #[.int .i64 k, .int .i64 c, .int .i64 q, .string a, .string b, .string o, .string v], .agg #[.int .i64 k', .int .i64 c', .int .i64 q', .string a', .string b', .string o', .string v']] w
      fun e w' => e = .returned (.bool (rclashC ⟨k, c, q, a, b, o, v⟩ ⟨k', c', q', a', b', o', v'⟩)) ∧ Below w.heap.size w w' := by
  have hk1 := fun w1 => rkeys_any k c q a b o v w1 ha
  have hk2 := fun w1 => rkeys_any k' c' q' a' b' o' v' w1 ha'
  have hw1 := fun w1 => rwrites_any k c q a b o v w1
  have hw2 := fun w1 => rwrites_any k' c' q' a' b' o' v' w1
  unfold rclashC
  unfold keysV at hk1 hk2
  have st : Both w ((w.alloc (.cells #[.int .i64 k, .int .i64 c, .int .i64 q, .string a, .string b, .string o, .string v] 23)).alloc (.cells #[.int .i64 k', .int .i64 c', .int .i64 q', .string a', .string b', .string o', .string v'] 23)) ⟨k, c, q, a, b, o, v⟩ ⟨k', c', q', a', b', o', v'⟩ :=
    Both.start w ⟨k, c, q, a, b, o, v⟩ ⟨k', c', q', a', b', o', v'⟩ 23
  simp only at hk1 hk2 ⊢
  generalize loC ⟨k, c, q, a, b, o, v⟩ = l1 at *
  generalize hiC ⟨k, c, q, a, b, o, v⟩ = h1 at *
  generalize loC ⟨k', c', q', a', b', o', v'⟩ = l2 at *
  generalize hiC ⟨k', c', q', a', b', o', v'⟩ = h2 at *
  generalize hasC k = p at *
  generalize hasC k' = p' at *
  generalize writesC k = r at *
  generalize writesC k' = r' at *
  have K1 := hide hk1
  have K2 := hide hk2
  have W1 := hide hw1
  have W2 := hide hw2
  have ST := hide st
  clear hk1 hk2 hw1 hw2 ha ha' st
  go_enter Try.func19, Try.ntmps19
  go_upto_region 2 with (go_at_call 14; (with_reducible refine (K1.out _).mono ?_); rintro e w1 ⟨rfl, hb1⟩; have st1 := hide (ST.out.step hb1); clear hb1)
  have st2 := hide (show Both1 w _ _ _ w1.heap.size l1 h1 from ⟨st1.out.step ((Below.refl _ _).alloc (Nat.le_refl _) (.cells #[.string l1, .string h1] 31)), Two.new w1 l1 h1 31⟩)
  generalize w1.heap.size = g1 at *
  generalize w1.alloc (.cells #[.string l1, .string h1] 31) = w2 at *
  obtain ⟨b0, b1, b2, b3, b4, b5, b6⟩ := st2.out.s.b.cells
  go_upto_region 3 with (go_at_call 14; (with_reducible refine (K2.out _).mono ?_); rintro e w3 ⟨rfl, hb3⟩; have st3 := hide (st2.out.step hb3); clear hb3)
  have st4 := hide (show Both2 w _ _ _ g1 l1 h1 w3.heap.size l2 h2 from ⟨st3.out.step ((Below.refl _ _).alloc (Nat.le_refl _) (.cells #[.string l2, .string h2] 31)), Two.new w3 l2 h2 31⟩)
  generalize w3.heap.size = g2 at *
  generalize w3.alloc (.cells #[.string l2, .string h2] 31) = w4 at *
  obtain ⟨A0, A1, A2, A3, A4, A5, A6⟩ := st4.out.s.s.a.cells
  obtain ⟨B0, B1, B2, B3, B4, B5, B6⟩ := st4.out.s.s.b.cells
  have C0 := st4.out.s.t.c0
  have C1 := st4.out.s.t.c1
  have C2 := st4.out.t.c0
  have C3 := st4.out.t.c1
  simp only at A0 A1 A2 A3 A4 A5 A6 B0 B1 B2 B3 B4 B5 B6
  clear b0 b1 b2 b3 b4 b5 b6
  have old4 := st4.out.s.s.old
  have st := st4.out
  clear st1 st2 st3 st4 ST
  go_wp2_with (first
    | (go_at_call 18; (with_reducible refine (Both2.call (by with_reducible assumption) (W1.out _)).mono ?_); rintro e w5 ⟨rfl, ⟨A0, A1, A2, A3, A4, A5, A6⟩, ⟨B0, B1, B2, B3, B4, B5, B6⟩, ⟨C0, C1, C2, C3⟩, st⟩; simp only at A0 A1 A2 A3 A4 A5 A6 B0 B1 B2 B3 B4 B5 B6; have old4 := st.s.s.old)
    | (go_at_call 18; (with_reducible refine (Both2.call (by with_reducible assumption) (W2.out _)).mono ?_); rintro e w5 ⟨rfl, ⟨A0, A1, A2, A3, A4, A5, A6⟩, ⟨B0, B1, B2, B3, B4, B5, B6⟩, ⟨C0, C1, C2, C3⟩, st⟩; simp only at A0 A1 A2 A3 A4 A5 A6 B0 B1 B2 B3 B4 B5 B6; have old4 := st.s.s.old)
    | (go_at_call 33; (with_reducible refine (Both2.call (by with_reducible assumption) (rmeets_any l1 h1 l2 h2 _)).mono ?_); rintro e w5 ⟨rfl, ⟨A0, A1, A2, A3, A4, A5, A6⟩, ⟨B0, B1, B2, B3, B4, B5, B6⟩, ⟨C0, C1, C2, C3⟩, st⟩; have old4 := st.s.s.old))
  all_goals go_ret
  all_goals exact ⟨ret_bool (by simp [*] <;> simp_all), by with_reducible assumption⟩
set_option maxRecDepth 100000 in
set_option maxHeartbeats 8000000 in
theorem rright_any (k c q : Int) (a b o v : ByteArray) (w : World) :
    Calls Try.prog 16 #[.agg #[.int .i64 k, .int .i64 c, .int .i64 q, .string a, .string b, .string o, .string v]] w fun e w' => e = .returned (.bool (rrightC ⟨k, c, q, a, b, o, v⟩)) ∧ Below w.heap.size w w' := by
  have heq := fun k' c' q' a' b' o' v' => eql_cmd k c q a b o v k' c' q' a' b' o' v'
  cases hz : sameC ⟨k, c, q, a, b, o, v⟩ ⟨0, 0, 0, ⟨#[]⟩, ⟨#[]⟩, ⟨#[]⟩, ⟨#[]⟩⟩
  · go_enter Try.func16, Try.ntmps16
    go_wp2
    all_goals first
      | (go_ret; clear heq; exact ⟨ret_bool (by simp [rrightC, badC, bareC, zeroC, noT, nilB, *] <;> simp_all <;> omega), by repeat' first | exact Below.refl _ _ | refine Below.drew ?_ | refine bit_alloc ?_ (Nat.le_refl _) _⟩)
      | (go_region; go_wp2; all_goals go_ret; clear heq; all_goals exact ⟨ret_bool (by simp [rrightC, badC, bareC, zeroC, noT, nilB, *] <;> simp_all <;> omega), by repeat' first | exact Below.refl _ _ | refine Below.drew ?_ | refine bit_alloc ?_ (Nat.le_refl _) _⟩)
  · go_enter Try.func16, Try.ntmps16
    go_wp2
    go_ret
    exact ⟨ret_bool (by simp [rrightC, zeroC, noT, hz]), (Below.refl _ _).alloc (Nat.le_refl _) _⟩
end Go.Proofs.Ytigbplmfhnamkaa
