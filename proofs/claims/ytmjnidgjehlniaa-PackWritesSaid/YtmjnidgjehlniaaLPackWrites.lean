/- Proved: the law PackWrites returns true. Conditions: none beyond the row's own. -/
import Derived.Test.YtmjnidgjehlniaaFrame
import Derived.Test.YtmjnidgjehlniaaRuns
import Derived.Test.YtmjnidgjehlniaaPuts
import Derived.Test.YtmjnidgjehlniaaStep
import Derived.Deep.RegionHeld3
import Derived.Deep.DrawnRows
import Derived.Deep.DeepCutAuto
namespace Go.Proofs.Ytmjnidgjehlniaa.packWrites
open Go.ChangeShapes Go.WideShapes Go.ChangeAt Go.RowKit
theorem front {w : World} {A : Option Addr} {zs ys : List Int} (h : Lies w A (zs ++ ys)) : Lies w A zs := by
  have := h.take zs.length
  rwa [List.take_left] at this
/-- A slice of these n bytes. -/
structure Here (w : World) (A : Option Addr) (n c : Nat) (zs : List Int) : Prop where
  len : zs.length = n
  lies : Lies w A zs
  nil : A = none → c = 0
theorem kinds (k : Int) : k = 1 ∨ k = 4 ∨ k = 2 ∨ k = 3 ∨ ((k == 1) = false ∧ (k == 4) = false ∧ (k == 2) = false ∧ (k == 3) = false) := by
  by_cases h1 : k = 1
  · exact .inl h1
  by_cases h4 : k = 4
  · exact .inr (.inl h4)
  by_cases h2 : k = 2
  · exact .inr (.inr (.inl h2))
  by_cases h3 : k = 3
  · exact .inr (.inr (.inr (.inl h3)))
  exact .inr (.inr (.inr (.inr ⟨by rw [beq_eq_false_iff_ne]; exact h1, by rw [beq_eq_false_iff_ne]; exact h4, by rw [beq_eq_false_iff_ne]; exact h2, by rw [beq_eq_false_iff_ne]; exact h3⟩)))
theorem Here.of_made {w' : World} {n m : Nat} {A : Option Addr} {c : Nat} {ys bs : List Int} (hn : ys.length = n) (hm : bs.length = m) (hl : Lies w' A (ys ++ bs)) (hA : A = none → c = 0) : Here w' A (n + m) c (ys ++ bs) :=
  ⟨by rw [List.length_append, hn, hm], hl, hA⟩
theorem Here.below {w w' : World} {n : Nat} {A : Option Addr} {c : Nat} {ys : List Int} (h : Here w A n c ys) (hb : Below w.heap.size w w') : Here w' A n c ys := ⟨h.len, h.lies.below hb, h.nil⟩
theorem Here.alloc {w : World} {n : Nat} {A : Option Addr} {c : Nat} {ys : List Int} (h : Here w A n c ys) (o : Obj) : Here (w.alloc o) A n c ys := ⟨h.len, h.lies.alloc o, h.nil⟩
theorem item_row {w w' : World} {cs : Array Value} (hb : Below (w.alloc (.cells cs 32)).heap.size (w.alloc (.cells cs 32)) w') : Row w' w.heap.size 32 cs :=
  (hb.block _ (by simp)).trans (Row.new w _ cs)
set_option maxRecDepth 100000 in
set_option maxHeartbeats 8000000 in
theorem walk (A : Option Addr) (n c : Nat) (zs : List Int) (A1 : Option Addr) (n1 c1 : Nat) (it : Nat → It) (W : World) (s : SliceIn W A n c zs) (t : ItemsIn W A1 n1 c1 it) :
    Calls Try.prog 4 #[.slice A n c, .slice A1 n1 c1] W fun e w' => e = .returned (.bool true) ∧ Below W.heap.size W w' := by
  have hnc := s.le
  have hroom := s.room
  have hnc1 := t.le
  have hroom1 := t.room
  have hit := hide t.at_
  have S := hide s
  clear s t
  obtain ⟨i0, hi0, hz00, hz10, hz20⟩ := info_parts Try.info5
  have hi := hide hi0; have hz0 := hide hz00; have hz1 := hide hz10; have hz2 := hide hz20
  clear hi0 hz00 hz10 hz20
  go_enter Try.func4, Try.ntmps4
  go_wp2_with (go_at_call 14; (with_reducible refine (roomy_any A n c zs _ W S.out.len S.out.lies (by omega)).mono ?_); rintro e w1 ⟨rfl, hown, hb1⟩; have hl1 := hide (Lies.of_own hown); have hzb := hide (S.out.lies.below hb1); have HB := hide hb1; have hg := hb1.size; clear hown hb1)
  have s1 : (0 : Int) ≤ (n : Int) := by omega
  have s2 : (n : Int) ≤ (n : Int) + 80 := by omega
  have s3 : (n : Int) ≤ ((n + 80 : Nat) : Int) := by omega
  have hown0 := hide (World.ownsRow_lit (base := w1.heap.size) (e := 5) (size := 1) w1 #[] 0 (Nat.le_refl _) (by unfold maxLen; omega) rfl)
  have hzb2 := hide (hzb.out.alloc (.cells #[] 5))
  have hnil := hide S.out.nil
  have hlen := hide S.out.len
  go_region_held3 (fun w' => True) (go_keep) ((refine step_append_bytes (by rfl) (.tmp 16) (.tmp 17) 23 (by rfl) w1.heap.size 5 i0 _ Try.underlying23 hi.out hz0.out hz1.out hz2.out (by rfl) _ 0 [] (by rfl) (by exact hown0.out) A n c zs (by rfl) hlen.out hnil.out (by exact hzb2.out) (by omega) (by simp) ?_; intro v2 w2 hown2 hb2))
  simp only [Nat.zero_add, List.nil_append] at hown2
  obtain ⟨A2, c2, rfl, hA2⟩ : ∃ A2 c2, v2 = .slice A2 n c2 ∧ (A2 = none → c2 = 0) := by
    obtain ⟨A2, c2, he, _, _, hA, _⟩ := made_of (w := w1) (e := .returned v2) ⟨v2, rfl, hown2, (kept_alloc (kept_refl w1) _).drew.trans hb2⟩
    injection he with he
    exact ⟨A2, c2, he, hA⟩
  have h0 : Hid (Here w2 A2 n c2 zs) := hide ⟨hlen.out, Lies.of_own hown2, hA2⟩
  have hB2 : Below w1.heap.size w1 w2 := (kept_alloc (kept_refl w1) _).drew.trans hb2
  have h00 : Hid (Here w2 (some ⟨W.heap.size, 0, none⟩) n (n + 80) zs) := hide ⟨hlen.out, (front hl1.out).below hB2, fun h => by cases h⟩
  have hl2 := hide (hl1.out.below hB2)
  have HB2 := hide (kept_trans HB.out hB2)
  clear hown2 hb2 hA2 hB2 hown0 hzb2 hzb hl1 HB s1 s2 s3
  go_wp2_with fail
  go_loopw [6, 7, 8] (fun so sw i wr => ∃ (k N : Nat) (ys : List Int) (P Q : Option Addr) (cp cq : Nat), k ≤ 30 ∧ i = .int .i64 k ∧ so = .slice P N cp ∧ sw = .slice Q N cq ∧ N ≤ n + 110 * k ∧ Hid (Here wr P N cp ys) ∧ Hid (Here wr Q N cq ys) ∧
      Hid (Lies wr (some ⟨W.heap.size, 0, none⟩) (zs ++ pad 80 11)) ∧ Hid (Below W.heap.size W wr)) (fun _ _ i _ => 30 - (intOf i).toNat)
  case atStart => exact ⟨0, n, zs, _, _, _, _, by omega, rfl, rfl, rfl, by omega, h00, h0, hl2, HB2⟩
  case round =>
    clear h0 h00 hl2 HB2 hg
    obtain ⟨k, N, ys, P, Q, cp, cq, hk, rfl, rfl, rfl, hN, hP, hQ, hl, HB⟩ := hrel
    by_cases hlt : k < n1 ∧ k < 30
    · obtain ⟨h1, h2⟩ := hlt
      obtain ⟨b, off, rfl, hbl, hx⟩ := hit.out k h1
      have hx := hx.below HB.out hbl
      generalize it k = x at *
      obtain ⟨xk, xn, xs, xf⟩ := x
      obtain ⟨q0, q1, q2, q3, qk, qn, qs⟩ := hx
      simp only at q0 q1 q2 q3 qk qn qs
      have qn0 := qn.1
      have qn1 := qn.2
      by_cases hs : 100 < xs.size
      · have ts : decide (100 < (xs.size : Int)) = true := decide_eq_true (by omega)
        obtain ⟨S, hS, hSl⟩ : ∃ S, xs.extract 0 100 = S ∧ S.size ≤ 100 := ⟨_, rfl, by rw [ByteArray.size_extract]; omega⟩
        obtain ⟨L, hL⟩ : ∃ L, (num7 xn).length = L := ⟨_, rfl⟩
        obtain ⟨T, hT⟩ : ∃ T, (text7 S).length = T := ⟨_, rfl⟩
        have hLl : L ≤ 10 := by have := (num7_len xn).2; omega
        have hTl : T ≤ 110 := by have h1 := text7_len S; have h2 := (num7_len (S.size : Int)).2; omega
        have hL := hide hL; have hT := hide hT
        rcases kinds xk with rfl | rfl | rfl | rfl | ⟨t1, t4, t2, t3⟩
        · go_wp2_with (first
            | (go_at_call 15; (with_reducible refine (put_num 1 xn S xf (by omega) hP.out.len (hP.out.lies.alloc _) hP.out.nil (by omega) qn0 qn1).mono ?_); rintro e w3 ⟨P3, d3, rfl, m1, m2, m3, m4⟩; have d0 : w3.cell? ⟨wr.heap.size, 0, none⟩ = some (.int .i64 1) := (item_row m4).cell 0; have d1 : w3.cell? ⟨wr.heap.size, 1, none⟩ = some (.int .i64 xn) := (item_row m4).cell 1; have hP3 := hide (Here.of_made hP.out.len hL.out m2 m3); have hQ3 := hide ((hQ.out.alloc _).below m4); have hl3 := hide ((hl.out.alloc _).below m4); have hB3 := hide (kept_trans (kept_alloc HB.out _) m4); clear m2 m3 m4)
            | (go_at_call 16; (with_reducible refine (rnum_use xn hQ3.out.len hQ3.out.lies hQ3.out.nil (by omega) qn0 qn1).mono ?_); rintro e w4 ⟨Q4, d4, rfl, n1, n2, n3, n4⟩; have hP4 := hide (hP3.out.below n4); have hQ4 := hide (Here.of_made hQ3.out.len hL.out n2 n3); have hl4 := hide (hl3.out.below n4); have hB4 := hide (kept_trans hB3.out n4); clear n2 n3 n4))
          go_roundw
          case rel => exact ⟨k + 1, N + L, ys ++ num7 xn, _, _, _, _, by omega, by go_num, rfl, rfl, by omega, hP4, hQ4, hl4, hB4⟩
          case measure => simp [intOf]; omega
        · go_wp2_with (first
            | (go_at_call 15; (with_reducible refine (put_num 4 xn S xf (by omega) hP.out.len (hP.out.lies.alloc _) hP.out.nil (by omega) qn0 qn1).mono ?_); rintro e w3 ⟨P3, d3, rfl, m1, m2, m3, m4⟩; have d0 : w3.cell? ⟨wr.heap.size, 0, none⟩ = some (.int .i64 4) := (item_row m4).cell 0; have d1 : w3.cell? ⟨wr.heap.size, 1, none⟩ = some (.int .i64 xn) := (item_row m4).cell 1; have hP3 := hide (Here.of_made hP.out.len hL.out m2 m3); have hQ3 := hide ((hQ.out.alloc _).below m4); have hl3 := hide ((hl.out.alloc _).below m4); have hB3 := hide (kept_trans (kept_alloc HB.out _) m4); clear m2 m3 m4)
            | (go_at_call 16; (with_reducible refine (rnum_use xn hQ3.out.len hQ3.out.lies hQ3.out.nil (by omega) qn0 qn1).mono ?_); rintro e w4 ⟨Q4, d4, rfl, n1, n2, n3, n4⟩; have hP4 := hide (hP3.out.below n4); have hQ4 := hide (Here.of_made hQ3.out.len hL.out n2 n3); have hl4 := hide (hl3.out.below n4); have hB4 := hide (kept_trans hB3.out n4); clear n2 n3 n4))
          go_roundw
          case rel => exact ⟨k + 1, N + L, ys ++ num7 xn, _, _, _, _, by omega, by go_num, rfl, rfl, by omega, hP4, hQ4, hl4, hB4⟩
          case measure => simp [intOf]; omega
        · go_wp2_with (first
            | (go_at_call 15; (with_reducible refine (put_text xn S xf hP.out.len (hP.out.lies.alloc _) hP.out.nil (by omega)).mono ?_); rintro e w3 ⟨P3, d3, rfl, m1, m2, m3, m4⟩; have d0 : w3.cell? ⟨wr.heap.size, 0, none⟩ = some (.int .i64 2) := (item_row m4).cell 0; have d2 : w3.cell? ⟨wr.heap.size, 2, none⟩ = some (.string S) := (item_row m4).cell 2; have hP3 := hide (Here.of_made hP.out.len hT.out m2 m3); have hQ3 := hide ((hQ.out.alloc _).below m4); have hl3 := hide ((hl.out.alloc _).below m4); have hB3 := hide (kept_trans (kept_alloc HB.out _) m4); clear m2 m3 m4)
            | (go_at_call 17; (with_reducible refine (rtext_use S hQ3.out.len hQ3.out.lies hQ3.out.nil (by omega)).mono ?_); rintro e w4 ⟨Q4, d4, rfl, n1, n2, n3, n4⟩; have hP4 := hide (hP3.out.below n4); have hQ4 := hide (Here.of_made hQ3.out.len hT.out n2 n3); have hl4 := hide (hl3.out.below n4); have hB4 := hide (kept_trans hB3.out n4); clear n2 n3 n4))
          go_roundw
          case rel => exact ⟨k + 1, N + T, ys ++ text7 S, _, _, _, _, by omega, by go_num, rfl, rfl, by omega, hP4, hQ4, hl4, hB4⟩
          case measure => simp [intOf]; omega
        · go_wp2_with (first
            | (go_at_call 15; (with_reducible refine (put_flag xn S xf hP.out.len (hP.out.lies.alloc _) hP.out.nil (by omega)).mono ?_); rintro e w3 ⟨P3, d3, rfl, m1, m2, m3, m4⟩; have d0 : w3.cell? ⟨wr.heap.size, 0, none⟩ = some (.int .i64 3) := (item_row m4).cell 0; have d2 : w3.cell? ⟨wr.heap.size, 3, none⟩ = some (.bool xf) := (item_row m4).cell 3; have hP3 := hide (Here.of_made hP.out.len (show (flag7 xf).length = 1 from rfl) m2 m3); have hQ3 := hide ((hQ.out.alloc _).below m4); have hl3 := hide ((hl.out.alloc _).below m4); have hB3 := hide (kept_trans (kept_alloc HB.out _) m4); clear m2 m3 m4)
            | (go_at_call 18; (with_reducible refine (rflag_use xf hQ3.out.len hQ3.out.lies hQ3.out.nil (by omega)).mono ?_); rintro e w4 ⟨Q4, d4, rfl, n1, n2, n3, n4⟩; have hP4 := hide (hP3.out.below n4); have hQ4 := hide (Here.of_made hQ3.out.len (show (flag7 xf).length = 1 from rfl) n2 n3); have hl4 := hide (hl3.out.below n4); have hB4 := hide (kept_trans hB3.out n4); clear n2 n3 n4))
          go_roundw
          case rel => exact ⟨k + 1, N + 1, ys ++ flag7 xf, _, _, _, _, by omega, by go_num, rfl, rfl, by omega, hP4, hQ4, hl4, hB4⟩
          case measure => simp [intOf]; omega
        · go_wp2_with (first
            | (go_at_call 15; (with_reducible refine (put_none xk xn S xf (beq_eq_false_iff_ne.1 t1) (beq_eq_false_iff_ne.1 t2) (beq_eq_false_iff_ne.1 t3) (beq_eq_false_iff_ne.1 t4) hP.out.len (hP.out.lies.alloc _) hP.out.nil (by omega)).mono ?_); rintro e w3 ⟨P3, d3, rfl, m1, m2, m3, m4⟩; have d0 : w3.cell? ⟨wr.heap.size, 0, none⟩ = some (.int .i64 xk) := (item_row m4).cell 0; have hP3 : Hid (Here w3 P3 N d3 ys) := hide ⟨hP.out.len, m2, m3⟩; have hQ3 := hide ((hQ.out.alloc _).below m4); have hl3 := hide ((hl.out.alloc _).below m4); have hB3 := hide (kept_trans (kept_alloc HB.out _) m4); clear m2 m3 m4))
          go_roundw
          case rel => exact ⟨k + 1, N, ys, _, _, _, _, by omega, by go_num, rfl, rfl, by omega, hP3, hQ3, hl3, hB3⟩
          case measure => simp [intOf]; omega
      · have ts : decide (100 < (xs.size : Int)) = false := decide_eq_false (by omega)
        obtain ⟨S, hS⟩ : ∃ S, S = xs := ⟨_, rfl⟩
        subst hS
        have hSl : S.size ≤ 100 := by omega
        obtain ⟨L, hL⟩ : ∃ L, (num7 xn).length = L := ⟨_, rfl⟩
        obtain ⟨T, hT⟩ : ∃ T, (text7 S).length = T := ⟨_, rfl⟩
        have hLl : L ≤ 10 := by have := (num7_len xn).2; omega
        have hTl : T ≤ 110 := by have h1 := text7_len S; have h2 := (num7_len (S.size : Int)).2; omega
        have hL := hide hL; have hT := hide hT
        rcases kinds xk with rfl | rfl | rfl | rfl | ⟨t1, t4, t2, t3⟩
        · go_wp2_with (first
            | (go_at_call 15; (with_reducible refine (put_num 1 xn S xf (by omega) hP.out.len (hP.out.lies.alloc _) hP.out.nil (by omega) qn0 qn1).mono ?_); rintro e w3 ⟨P3, d3, rfl, m1, m2, m3, m4⟩; have d0 : w3.cell? ⟨wr.heap.size, 0, none⟩ = some (.int .i64 1) := (item_row m4).cell 0; have d1 : w3.cell? ⟨wr.heap.size, 1, none⟩ = some (.int .i64 xn) := (item_row m4).cell 1; have hP3 := hide (Here.of_made hP.out.len hL.out m2 m3); have hQ3 := hide ((hQ.out.alloc _).below m4); have hl3 := hide ((hl.out.alloc _).below m4); have hB3 := hide (kept_trans (kept_alloc HB.out _) m4); clear m2 m3 m4)
            | (go_at_call 16; (with_reducible refine (rnum_use xn hQ3.out.len hQ3.out.lies hQ3.out.nil (by omega) qn0 qn1).mono ?_); rintro e w4 ⟨Q4, d4, rfl, n1, n2, n3, n4⟩; have hP4 := hide (hP3.out.below n4); have hQ4 := hide (Here.of_made hQ3.out.len hL.out n2 n3); have hl4 := hide (hl3.out.below n4); have hB4 := hide (kept_trans hB3.out n4); clear n2 n3 n4))
          go_roundw
          case rel => exact ⟨k + 1, N + L, ys ++ num7 xn, _, _, _, _, by omega, by go_num, rfl, rfl, by omega, hP4, hQ4, hl4, hB4⟩
          case measure => simp [intOf]; omega
        · go_wp2_with (first
            | (go_at_call 15; (with_reducible refine (put_num 4 xn S xf (by omega) hP.out.len (hP.out.lies.alloc _) hP.out.nil (by omega) qn0 qn1).mono ?_); rintro e w3 ⟨P3, d3, rfl, m1, m2, m3, m4⟩; have d0 : w3.cell? ⟨wr.heap.size, 0, none⟩ = some (.int .i64 4) := (item_row m4).cell 0; have d1 : w3.cell? ⟨wr.heap.size, 1, none⟩ = some (.int .i64 xn) := (item_row m4).cell 1; have hP3 := hide (Here.of_made hP.out.len hL.out m2 m3); have hQ3 := hide ((hQ.out.alloc _).below m4); have hl3 := hide ((hl.out.alloc _).below m4); have hB3 := hide (kept_trans (kept_alloc HB.out _) m4); clear m2 m3 m4)
            | (go_at_call 16; (with_reducible refine (rnum_use xn hQ3.out.len hQ3.out.lies hQ3.out.nil (by omega) qn0 qn1).mono ?_); rintro e w4 ⟨Q4, d4, rfl, n1, n2, n3, n4⟩; have hP4 := hide (hP3.out.below n4); have hQ4 := hide (Here.of_made hQ3.out.len hL.out n2 n3); have hl4 := hide (hl3.out.below n4); have hB4 := hide (kept_trans hB3.out n4); clear n2 n3 n4))
          go_roundw
          case rel => exact ⟨k + 1, N + L, ys ++ num7 xn, _, _, _, _, by omega, by go_num, rfl, rfl, by omega, hP4, hQ4, hl4, hB4⟩
          case measure => simp [intOf]; omega
        · go_wp2_with (first
            | (go_at_call 15; (with_reducible refine (put_text xn S xf hP.out.len (hP.out.lies.alloc _) hP.out.nil (by omega)).mono ?_); rintro e w3 ⟨P3, d3, rfl, m1, m2, m3, m4⟩; have d0 : w3.cell? ⟨wr.heap.size, 0, none⟩ = some (.int .i64 2) := (item_row m4).cell 0; have d2 : w3.cell? ⟨wr.heap.size, 2, none⟩ = some (.string S) := (item_row m4).cell 2; have hP3 := hide (Here.of_made hP.out.len hT.out m2 m3); have hQ3 := hide ((hQ.out.alloc _).below m4); have hl3 := hide ((hl.out.alloc _).below m4); have hB3 := hide (kept_trans (kept_alloc HB.out _) m4); clear m2 m3 m4)
            | (go_at_call 17; (with_reducible refine (rtext_use S hQ3.out.len hQ3.out.lies hQ3.out.nil (by omega)).mono ?_); rintro e w4 ⟨Q4, d4, rfl, n1, n2, n3, n4⟩; have hP4 := hide (hP3.out.below n4); have hQ4 := hide (Here.of_made hQ3.out.len hT.out n2 n3); have hl4 := hide (hl3.out.below n4); have hB4 := hide (kept_trans hB3.out n4); clear n2 n3 n4))
          go_roundw
          case rel => exact ⟨k + 1, N + T, ys ++ text7 S, _, _, _, _, by omega, by go_num, rfl, rfl, by omega, hP4, hQ4, hl4, hB4⟩
          case measure => simp [intOf]; omega
        · go_wp2_with (first
            | (go_at_call 15; (with_reducible refine (put_flag xn S xf hP.out.len (hP.out.lies.alloc _) hP.out.nil (by omega)).mono ?_); rintro e w3 ⟨P3, d3, rfl, m1, m2, m3, m4⟩; have d0 : w3.cell? ⟨wr.heap.size, 0, none⟩ = some (.int .i64 3) := (item_row m4).cell 0; have d2 : w3.cell? ⟨wr.heap.size, 3, none⟩ = some (.bool xf) := (item_row m4).cell 3; have hP3 := hide (Here.of_made hP.out.len (show (flag7 xf).length = 1 from rfl) m2 m3); have hQ3 := hide ((hQ.out.alloc _).below m4); have hl3 := hide ((hl.out.alloc _).below m4); have hB3 := hide (kept_trans (kept_alloc HB.out _) m4); clear m2 m3 m4)
            | (go_at_call 18; (with_reducible refine (rflag_use xf hQ3.out.len hQ3.out.lies hQ3.out.nil (by omega)).mono ?_); rintro e w4 ⟨Q4, d4, rfl, n1, n2, n3, n4⟩; have hP4 := hide (hP3.out.below n4); have hQ4 := hide (Here.of_made hQ3.out.len (show (flag7 xf).length = 1 from rfl) n2 n3); have hl4 := hide (hl3.out.below n4); have hB4 := hide (kept_trans hB3.out n4); clear n2 n3 n4))
          go_roundw
          case rel => exact ⟨k + 1, N + 1, ys ++ flag7 xf, _, _, _, _, by omega, by go_num, rfl, rfl, by omega, hP4, hQ4, hl4, hB4⟩
          case measure => simp [intOf]; omega
        · go_wp2_with (first
            | (go_at_call 15; (with_reducible refine (put_none xk xn S xf (beq_eq_false_iff_ne.1 t1) (beq_eq_false_iff_ne.1 t2) (beq_eq_false_iff_ne.1 t3) (beq_eq_false_iff_ne.1 t4) hP.out.len (hP.out.lies.alloc _) hP.out.nil (by omega)).mono ?_); rintro e w3 ⟨P3, d3, rfl, m1, m2, m3, m4⟩; have d0 : w3.cell? ⟨wr.heap.size, 0, none⟩ = some (.int .i64 xk) := (item_row m4).cell 0; have hP3 : Hid (Here w3 P3 N d3 ys) := hide ⟨hP.out.len, m2, m3⟩; have hQ3 := hide ((hQ.out.alloc _).below m4); have hl3 := hide ((hl.out.alloc _).below m4); have hB3 := hide (kept_trans (kept_alloc HB.out _) m4); clear m2 m3 m4))
          go_roundw
          case rel => exact ⟨k + 1, N, ys, _, _, _, _, by omega, by go_num, rfl, rfl, by omega, hP3, hQ3, hl3, hB3⟩
          case measure => simp [intOf]; omega
    · have hc : (decide (k < n1) = false) ∨ (decide (k < n1) = true ∧ decide (k < 30) = false ∧ decide ((k : Int) < 30) = false) := by
        by_cases h1 : k < n1
        · exact .inr ⟨decide_eq_true h1, decide_eq_false (by omega), decide_eq_false (by omega)⟩
        · exact .inl (decide_eq_false h1)
      clear hlt
      have hsm := same_any P Q N N cp cq ys ys wr hP.out.len hQ.out.len hP.out.lies hQ.out.lies (by omega) (by omega)
      rw [decide_eq_true rfl] at hsm
      have hsm := hide hsm
      have hin := hide fun q => intact_any (some ⟨W.heap.size, 0, none⟩) A (n + 80) n (n + 80) c _ zs 11 (wr.drewN q) (by rw [List.length_append, length_pad, hlen.out]) hlen.out (hl.out.drewN q) ((S.out.lies.below HB.out).drewN q) (by omega) (by omega) (by omega) rfl
      rcases hc with t1 | ⟨t1, t2, t3⟩
      all_goals
        go_wp2_with (first
          | (go_at_call 10; (with_reducible refine hsm.out.mono ?_); rintro e w3 ⟨rfl, q3, rfl⟩)
          | (go_at_call 19; (with_reducible refine (hin.out _).mono ?_); rintro e w4 ⟨rfl, q4, rfl⟩)
          | (go_at_call 3; (with_reducible refine (runs_any _).mono ?_); rintro e w9 ⟨rfl, k9⟩))
        go_ret
        exact ⟨rfl, kept_trans (by repeat (first | exact HB.out | apply kept_drewN)) k9⟩
set_option maxRecDepth 100000 in
theorem lifted (os : Os) (started : os.Started) (H : Type) (enc : TypeId × Value → H) :
    ReturnsInHanded {} Try.checked os 4 .any (Rows.packWritesSpec.pre6 enc Try.prog Try.f4 Rows.packWritesRow.domain false) (Rows.packWritesSpec.post enc Try.prog Try.f4 false true false false) := by
  refine returnsInHanded_of_change_sized (C := Try.checked) own started (by kernel_rfl) Try.func4
    (ChangeSpec.witness6 (enc := enc) (C := Try.checked) false ⟨#[], #[.slice none 0 0, .slice none 0 0], []⟩ 8 (by kernel_rfl) (by kernel_rfl) (by kernel_rfl) (by kernel_rfl)) ?_
  intro W base args ds gs before hval0 hW _ hsz0 _
  have hval : ∀ (j : Nat) t v, Try.f4.params[j]? = some t → args[j]? = some v → Value.okWide Try.prog W .any base t v := hval0
  have hW' := hW
  obtain ⟨p, q, hA0, hV, rfl, _, _⟩ := hW
  have hA : DataW.TrodAll enc Try.prog W 0 (fun _ => true) true Try.f4.params.toList args.toList ds p := hA0
  have hsz : (DataW.weightsEach Try.prog (Try.f4.params.toList ++ Rows.packWritesSpec.plain.varTypes Try.prog) (ds ++ gs)).all (· ≤ reachBytes) = true := hsz0
  rw [Try.params4] at hA hval hsz
  obtain ⟨v0, vs0, d0, ds0, p0, q0, hargs, rfl, rfl, h0, r0⟩ := trodAll_cons hA
  obtain ⟨v1, vs1, d1, ds1, p1, q1, rfl, rfl, rfl, h1, r1⟩ := trodAll_cons r0
  obtain ⟨rfl, rfl, rfl⟩ := trodAll_nil r1
  obtain rfl : args = #[v0, v1] := by cases args; simp_all
  obtain ⟨rfl, rfl⟩ := trodVars_none hV
  have k0 := h0
  have lt0 : ∀ x ∈ p0, x.block < W.heap.size := by obtain ⟨m, hm⟩ := k0; exact DataW.trod_lt m _ _ _ hm
  obtain ⟨A0, n0, c0, rfl⟩ := okWide_slice Try.underlying23 (hval 0 23 v0 rfl rfl)
  obtain ⟨z0, s0⟩ := slice_in (j := 0) h0 hsz rfl rfl
  have k1 := h1
  have lt1 : ∀ x ∈ p1, x.block < W.heap.size := by obtain ⟨m, hm⟩ := k1; exact DataW.trod_lt m _ _ _ hm
  obtain ⟨A1, n1, c1, rfl⟩ := okWide_slice Try.underlying29 (hval 1 29 v1 rfl rfl)
  obtain ⟨z1, s1⟩ := items_in h1
  clear hA0 hval0
  refine (walk A0 n0 c0 z0 A1 n1 c1 z1 W s0 s1).mono fun e W' ⟨he, bel⟩ => ?_
  subst he
  exact ⟨_, rfl, _, _, _, [], _, [], hW', trodAll_mk1 (shut_bool Try.underlying4 _), (trodAll_cons_mk (Below.trod laidOut (by kernel_rfl) (of_decide_eq_true (by kernel_rfl)) k0 bel lt0) (trodAll_cons_mk (Below.trod laidOut (by kernel_rfl) (of_decide_eq_true (by kernel_rfl)) k1 bel lt1) trodAll_mk0)), rfl, bel.frame _, fun h => by cases h⟩
theorem over : Rows.packWritesRow.holds Try.pinned (OpenSpec.ofChange Rows.packWritesSpec) :=
  OpenClaim.holds_of_wide 4 Try.f4 rfl rfl rfl rfl rfl rfl rfl ⟨rfl, rfl, rfl, rfl, rfl⟩ rfl rfl rfl rfl rfl (by kernel_rfl) Try.func4 (by kernel_rfl)
    (of_decide_eq_true (by kernel_rfl)) (by unfold Func.isWrapper; first | (rw [if_pos (by decide +kernel)]; kernel_rfl) | (rw [if_neg (by decide +kernel)]; exact ⟨rfl, rfl⟩))
    (fun os started H enc _ => lifted os started H enc)
theorem proved : Rows.PackWritesSaid := over
end Go.Proofs.Ytmjnidgjehlniaa.packWrites
