/- Proved: the law PackBack returns true. Conditions: none beyond the row's own. -/
import Derived.Test.YtmjnidgjehlniaaFrame
import Derived.Test.YtmjnidgjehlniaaRuns
import Derived.Test.YtmjnidgjehlniaaBack
import Derived.Deep.DeepCutAuto
namespace Go.Proofs.Ytmjnidgjehlniaa.packBack
open Go.ChangeShapes Go.WideShapes Go.ChangeAt Go.RowKit
theorem within_to (n : Int) (hi : Nat) (l : hi ≤ 4611686018427387904) : ∃ K : Nat, K ≤ hi ∧ ∀ w : World, Calls Try.prog 25 #[.int .i64 n, .int .i64 0, .int .i64 (hi : Int)] w fun e w' => e = .returned (.int .i64 (K : Int)) ∧ w = w' := by
  have hb := withinI_bounds n 0 hi (by omega)
  refine ⟨(withinI n 0 hi).toNat, by omega, fun w => ?_⟩
  rw [Int.toNat_of_nonneg (by omega)]
  exact within_any n 0 hi w (by omega) (by omega) (by omega)
/-- A slice of these n bytes. -/
structure Here (w : World) (A : Option Addr) (n c : Nat) (zs : List Int) : Prop where
  len : zs.length = n
  le : n ≤ c
  lies : Lies w A zs
  nil : A = none → c = 0
theorem lies_put {w : World} {A : Option Addr} {zs : List Int} {p : Addr} {v : Int} (h : Lies w A zs) (hp : w.cell? p = some (.int .i64 v)) (u : Value) : Lies (w.setCell p u) A zs := fun hn => by
  obtain ⟨b, off, e, hlt, hc⟩ := h hn
  refine ⟨b, off, e, by simpa [World.setCell] using hlt, fun k hk => ?_⟩
  have hne : (⟨b, off + k, none⟩ : Addr) ≠ p := by
    rintro rfl
    rw [hc k hk] at hp
    cases hp
  exact (World.cell?_setCell_other w p _ u (by first | exact hne | exact hne.symm)).trans (hc k hk)
/-- What stands behind k rounds of writing. -/
structure Wrote (W w : World) (P : Option Addr) (N cp : Nat) (A1 : Option Addr) (n1 c1 : Nat) (it : Nat → It) (k : Nat) : Prop where
  b : Here w P N cp (enc it k)
  n : Row w (W.heap.size + 1) 3 #[.int .i64 k]
  l : Row w W.heap.size 29 #[.slice A1 n1 c1]
  old : Below W.heap.size W w
section
variable {W w w' : World} {P P' : Option Addr} {N N' cp cp' : Nat} {A1 : Option Addr} {n1 c1 : Nat} {it : Nat → It} {k : Nat}
theorem Wrote.start : Wrote W ((W.alloc (.cells #[.slice A1 n1 c1] 29)).alloc (.cells #[.int .i64 ((0 : Nat) : Int)] 3)) none 0 0 A1 n1 c1 it 0 :=
  ⟨⟨rfl, Nat.le_refl _, Lies.none_, fun _ => rfl⟩, by have := Row.new (W.alloc (.cells #[.slice A1 n1 c1] 29)) 3 #[.int .i64 ((0 : Nat) : Int)]; simpa using this,
    (Below.heap_alloc _ _ _ (by simp)).trans (Row.new W _ _), kept_alloc (kept_alloc (kept_refl W) _) _⟩
theorem Wrote.step (s : Wrote W w P N cp A1 n1 c1 it k) {o : Obj} {w3 : World} (hb : Below (w.alloc o).heap.size (w.alloc o) w3) (hm : Here w3 P' N' cp' (enc it (k + 1))) :
    Row w3 (W.heap.size + 1) 3 #[.int .i64 k] ∧ Wrote W (w3.setCell ⟨W.heap.size + 1, 0, none⟩ (.int .i64 ((k : Int) + 1))) P' N' cp' A1 n1 c1 it (k + 1) := by
  have hn := s.n.lt
  have hl := s.l.lt
  have rn : Row w3 (W.heap.size + 1) 3 #[.int .i64 k] := (hb.block _ (by simp; omega)).trans ((Below.heap_alloc _ _ _ hn).trans s.n)
  have rl : Row w3 W.heap.size 29 #[.slice A1 n1 c1] := (hb.block _ (by simp; omega)).trans ((Below.heap_alloc _ _ _ hl).trans s.l)
  have r0 : Row (w3.setCell ⟨W.heap.size + 1, 0, none⟩ (.int .i64 ((k : Int) + 1))) (W.heap.size + 1) 3 #[.int .i64 ((k : Int) + 1)] := rn.put 0 _
  refine ⟨rn, ⟨hm.len, hm.le, lies_put hm.lies (rn.cell 0) _, hm.nil⟩, r0, (Below.heap_setCell _ _ _ _ (by show W.heap.size ≠ W.heap.size + 1; omega)).trans rl, (kept_trans (kept_alloc s.old o) hb).setCell (by show W.heap.size ≤ W.heap.size + 1; omega) _⟩
theorem Wrote.below (s : Wrote W w P N cp A1 n1 c1 it k) (hb : Below w.heap.size w w') : Wrote W w' P N cp A1 n1 c1 it k :=
  ⟨⟨s.b.len, s.b.le, s.b.lies.below hb, s.b.nil⟩, (hb.block _ s.n.lt).trans s.n, (hb.block _ s.l.lt).trans s.l, kept_trans s.old hb⟩
theorem Wrote.held (s : Wrote W w P N cp A1 n1 c1 it k) (hk : k ≤ n1) (h30 : k ≤ 30) (hle : n1 ≤ c1) (hroom : c1 ≤ 9223372036854775807) (hit : ∀ j, j < n1 → ∃ b off, A1 = some ⟨b, off, none⟩ ∧ b < W.heap.size ∧ ItAt W b off j (it j)) :
    Held w (W.heap.size + 1) W.heap.size A1 n1 c1 k it :=
  ⟨s.n.cell 0, s.l.cell 0, s.n.lt, s.l.lt, hk, h30, hle, hroom, fun j hj => by
    obtain ⟨b, off, e, hb, hx⟩ := hit j hj
    exact ⟨b, off, e, by have := s.old.size; omega, hx.below s.old hb⟩⟩
end
theorem put_item {A : Option Addr} {n c L : Nat} {zs ys : List Int} {w : World} {xk xn : Int} {xs : ByteArray} {xf : Bool} (k : Int) (S : ByteArray) (hk : withinI xk 1 3 = k) (hS : cutS xs = S) (hL : (itemB ⟨xk, xn, xs, xf⟩).length = L) (hy : ys = zs ++ itemB ⟨xk, xn, xs, xf⟩) (hn : zs.length = n) (hz : Lies w A zs) (hc : A = none → c = 0) (ln : n + S.size ≤ 140737488355310) (m0 : -9223372036854775808 ≤ xn) (m1 : xn ≤ 9223372036854775807) :
    Calls Try.prog 15 #[.slice A n c, .agg #[.int .i64 k, .int .i64 xn, .string S, .bool xf]] w fun e w' => ∃ A' c', e = .returned (.slice A' (n + L) c') ∧ Here w' A' (n + L) c' ys ∧ Below w.heap.size w w' := by
  subst hk hS hL hy
  refine (put_use (withinI xk 1 3) xn (cutS xs) xf hn hz hc ln m0 m1).mono fun e w' h => ?_
  obtain ⟨A', c', he, h1, h2, h3, h4⟩ := h
  exact ⟨A', c', he, ⟨by rw [List.length_append, hn], h1, h2, h3⟩, h4⟩
theorem shape {w : World} {base n : Nat} {v : Value} {xs : List Int} (h : w.ownsRow base 5 1 v n (cellsOf xs)) (hx : xs.length = n) : ∃ B c, v = .slice B n c ∧ Here w B n c xs := by
  rcases h.2 with ⟨rfl, rfl⟩ | ⟨g, cap, cur, rfl, hr⟩
  · exact ⟨none, 0, rfl, hx, Nat.le_refl _, Lies.of_own h, fun _ => rfl⟩
  · exact ⟨_, cap, rfl, hx, (own_len h).2, Lies.of_own h, fun h => by cases h⟩
section
variable {W w : World} {P B : Option Addr} {N cp M cB : Nat} {A1 : Option Addr} {n1 c1 : Nat} {it : Nat → It} {k : Nat} {ms : List Int}
theorem read_whole {E : Int} (H : Held w (W.heap.size + 1) W.heap.size A1 n1 c1 k it) (hB : Here w B M cB (enc it k ++ ms)) (ho : Octets ms) (hM : M ≤ 140737488355328) (hE : (if (enc it k).length < M then 5 else 0) = E) :
    Calls Try.prog 26 #[.slice B M cB, .pointer (some ⟨W.heap.size + 1, 0, none⟩), .pointer (some ⟨W.heap.size, 0, none⟩)] w fun e w' => e = .returned (.tuple #[.bool true, .int .i64 E]) ∧ Below w.heap.size w w' := by
  subst hE
  refine (read_any B M cB (enc it k ++ ms) ms _ _ A1 n1 c1 k it w hB.len hB.lies (octets_append (octets_enc it k) ho) hB.nil hM (List.prefix_refl _) H).mono fun e w' ⟨h, hb⟩ => ⟨?_, hb⟩
  rcases h with ⟨he, _⟩ | ⟨_, hl⟩
  · rw [he]; unfold rEndE; rw [if_pos rfl, hB.len]
  · rw [List.length_append] at hl; omega
theorem read_full (H : Held w (W.heap.size + 1) W.heap.size A1 n1 c1 k it) (hB : Here w B M cB (enc it k)) (hM : M ≤ 140737488355328) :
    Calls Try.prog 26 #[.slice B M cB, .pointer (some ⟨W.heap.size + 1, 0, none⟩), .pointer (some ⟨W.heap.size, 0, none⟩)] w fun e w' => e = .returned (.tuple #[.bool true, .int .i64 0]) ∧ Below w.heap.size w w' :=
  read_whole (ms := []) (W := W) H (by rw [List.append_nil]; exact hB) (fun z hz => by cases hz) hM (by rw [hB.len, if_neg (by omega)])
theorem read_part {J : Nat} (H : Held w (W.heap.size + 1) W.heap.size A1 n1 c1 k it) (hB : Here w B M cB (enc it k)) (hM : M ≤ 140737488355328) (hJ : J < M) :
    Calls Try.prog 26 #[.slice B J cB, .pointer (some ⟨W.heap.size + 1, 0, none⟩), .pointer (some ⟨W.heap.size, 0, none⟩)] w fun e w' => ∃ b, e = .returned (.tuple #[.bool b, .int .i64 3]) ∧ Below w.heap.size w w' := by
  have hlen : ((enc it k).take J).length = J := by rw [List.length_take, hB.len]; omega
  refine (read_any B J cB ((enc it k).take J) [] _ _ A1 n1 c1 k it w hlen (hB.lies.take J) (octets_take (octets_enc it k) J) hB.nil (by omega) (by rw [List.append_nil]; exact List.take_prefix _ _) H).mono fun e w' ⟨h, hb⟩ => ?_
  rcases h with ⟨_, hl⟩ | ⟨⟨b, he⟩, _⟩
  · rw [hlen, hB.len] at hl; omega
  · exact ⟨b, he, hb⟩
end
set_option maxRecDepth 100000 in
set_option maxHeartbeats 8000000 in
theorem walk (A1 : Option Addr) (n1 c1 : Nat) (it : Nat → It) (A : Option Addr) (n c : Nat) (zs : List Int) (cut : Int) (W : World) (t : ItemsIn W A1 n1 c1 it) (s : SliceIn W A n c zs) (_ : -9223372036854775808 ≤ cut ∧ cut ≤ 9223372036854775807) :
    Calls Try.prog 6 #[.slice A1 n1 c1, .slice A n c, .int .i64 cut] W fun e w' => e = .returned (.bool true) ∧ Below W.heap.size W w' := by
  have hnc := s.le
  have hroom := s.room
  have hnc1 := t.le
  have hroom1 := t.room
  have hit := hide t.at_
  have S := hide s
  clear s t
  have hmf : ∀ (fn : Fn) (first cap : Array Value) (w : World), (Instr.makeFunc fn first cap).run Try.prog w = .ok (.func fn first cap) w := fun _ _ _ _ => rfl
  go_enter Try.func6, Try.ntmps6
  go_wp2_with fail
  have st0 := hide (Wrote.start (W := W) (A1 := A1) (n1 := n1) (c1 := c1) (it := it))
  go_loopw [7, 9] (fun bv iv wr => ∃ (k N cp : Nat) (P : Option Addr), k ≤ n1 ∧ k ≤ 30 ∧ iv = .int .i64 k ∧ bv = .slice P N cp ∧ N ≤ 110 * k ∧ Hid (Wrote W wr P N cp A1 n1 c1 it k)) (fun _ iv _ => 30 - (intOf iv).toNat)
  case atStart => exact ⟨0, 0, 0, none, by omega, by omega, rfl, rfl, by omega, st0⟩
  case round =>
    clear st0
    obtain ⟨k, N, cp, P, hk, hk30, rfl, rfl, hN, st⟩ := hrel
    have cn := st.out.n.cell 0
    have cl := st.out.l.cell 0
    by_cases hlt : k < n1 ∧ k < 30
    · obtain ⟨h1, h2⟩ := hlt
      obtain ⟨b, off, rfl, hbl, hx⟩ := hit.out k h1
      have hx := hx.below st.out.old hbl
      have hes := hide (enc_succ it k)
      have hil := itemB_le (it k)
      obtain ⟨x, hxe⟩ : ∃ x, it k = x := ⟨_, rfl⟩
      rw [hxe] at hx hes hil
      obtain ⟨xk, xn, xs, xf⟩ := x
      have q0 := hx.c0
      have q1 := hx.c1
      have q2 := hx.c2
      have q3 := hx.c3
      have qn := hide hx.n
      have hxe := hide hxe
      clear hx
      simp only at q0 q1 q2 q3
      have hcs := cutS_le xs
      obtain ⟨K, hK⟩ : ∃ K, withinI xk 1 3 = K := ⟨_, rfl⟩
      have hW := hide (within_is hK)
      have hK := hide hK
      obtain ⟨L, hL⟩ : ∃ L, (itemB ⟨xk, xn, xs, xf⟩).length = L := ⟨_, rfl⟩
      rw [hL] at hil
      have hL := hide hL
      by_cases hs : 100 < xs.size
      · have ts : decide (100 < (xs.size : Int)) = true := decide_eq_true (by omega)
        have hcut := hide (show cutS xs = xs.extract 0 100 by unfold cutS; rw [if_pos hs])
        have hsz := hide (show (xs.extract 0 100).size ≤ 100 by rw [← hcut.out]; exact hcs)
        go_wp2_with (first
          | (go_at_call 25; (with_reducible refine (hW.out _).mono ?_); rintro x w2 ⟨rfl, rfl⟩)
          | (go_at_call 15; (with_reducible refine (put_item K _ hK.out hcut.out hL.out hes.out st.out.b.len (st.out.b.lies.alloc _) st.out.b.nil (by have := hsz.out; omega) qn.out.1 qn.out.2).mono ?_); rintro e w3 ⟨P3, d3, rfl, m1, m2⟩; have rn := (st.out.step m2 m1).1; have r0 := rn.cell 0; have r1 := rn.free 0; have st3 := hide (st.out.step m2 m1).2; clear m1 m2))
        go_roundw
        case rel => exact ⟨k + 1, N + L, d3, P3, by omega, by omega, by go_num, rfl, by omega, st3⟩
        case measure => simp [intOf]; omega
      · have ts : decide (100 < (xs.size : Int)) = false := decide_eq_false (by omega)
        have hcut := hide (show cutS xs = xs by unfold cutS; rw [if_neg hs])
        have hsz := hide (show (xs).size ≤ 100 by rw [← hcut.out]; exact hcs)
        go_wp2_with (first
          | (go_at_call 25; (with_reducible refine (hW.out _).mono ?_); rintro x w2 ⟨rfl, rfl⟩)
          | (go_at_call 15; (with_reducible refine (put_item K _ hK.out hcut.out hL.out hes.out st.out.b.len (st.out.b.lies.alloc _) st.out.b.nil (by have := hsz.out; omega) qn.out.1 qn.out.2).mono ?_); rintro e w3 ⟨P3, d3, rfl, m1, m2⟩; have rn := (st.out.step m2 m1).1; have r0 := rn.cell 0; have r1 := rn.free 0; have st3 := hide (st.out.step m2 m1).2; clear m1 m2))
        go_roundw
        case rel => exact ⟨k + 1, N + L, d3, P3, by omega, by omega, by go_num, rfl, by omega, st3⟩
        case measure => simp [intOf]; omega
    · have hc : (decide (k < n1) = false) ∨ (decide (k < n1) = true ∧ decide (k < 30) = false ∧ decide ((k : Int) < 30) = false) := by
        by_cases h1 : k < n1
        · exact .inr ⟨decide_eq_true h1, decide_eq_false (by omega), decide_eq_false (by omega)⟩
        · exact .inl (decide_eq_false h1)
      clear hlt
      obtain ⟨i0, hi0, hz00, hz10, hz20⟩ := info_parts Try.info5
      have hi := hide hi0; have hz0 := hide hz00; have hz1 := hide hz10; have hz2 := hide hz20
      clear hi0 hz00 hz10 hz20
      have hown0 := hide (World.ownsRow_lit (base := wr.heap.size) (e := 5) (size := 1) wr #[] 0 (Nat.le_refl _) (by unfold maxLen; omega) rfl)
      have hP1 := hide (st.out.b.lies.alloc (.cells #[] 5))
      obtain ⟨J, hJ, hw1⟩ := within_to cut N (by omega)
      have hw1 := hide hw1
      have hNle := st.out.b.le
      have j0 : (0 : Int) ≤ (J : Int) := by omega
      have j1 : (J : Int) ≤ (cp : Int) := by omega
      rcases hc with tc1 | ⟨tc1, tc2, tc3⟩
      all_goals
        by_cases hm : 50 < n
        · have tm : decide (50 < n) = true := decide_eq_true hm
          have tm2 : decide ((50 : Int) < (n : Int)) = true := decide_eq_true (by omega)
          have hml := hide (show (zs.take 50).length = 50 by rw [List.length_take, S.out.len]; omega)
          have m1 : (50 : Int) ≤ (c : Int) := by omega
          have hmr := hide (show Lies W A (zs.take 50) from S.out.lies.take 50)
          have hmo := hide (show Octets (zs.take 50) from octets_take S.out.oct 50)
          have hsum := hide (show (enc it k ++ zs.take 50).length = N + 50 by rw [List.length_append, st.out.b.len, hml.out])
          have hE := hide (show (if (enc it k).length < N + 50 then (5 : Int) else 0) = 5 by rw [st.out.b.len]; rw [if_pos (by omega)])
          by_cases hJN : J = N
          · subst hJN
            go_wp2_with (first
              | (at_builtin; refine wpList_append_lies rfl (.tmp 57) (.tmp 58) 23 rfl wr.heap.size 5 i0 _ Try.underlying23 hi.out hz0.out hz1.out hz2.out rfl _ 0 [] rfl hown0.out P J cp (enc it k) rfl st.out.b.len st.out.b.nil hP1.out (by omega) (by simp) ?_; intro v1 w2 hown1 hb1; simp only [Nat.zero_add, List.nil_append] at hown1; have ho1 := hide hown1; have hb2 := hide (((Below.refl wr.heap.size wr).alloc (Nat.le_refl _) (.cells #[] 5)).trans hb1); clear hown1 hb1)
              | (at_builtin; refine wpList_append_lies rfl (.tmp 59) (.tmp 60) 23 rfl wr.heap.size 5 i0 _ Try.underlying23 hi.out hz0.out hz1.out hz2.out rfl v1 J (enc it k) rfl ho1.out A 50 c (zs.take 50) rfl hml.out S.out.nil ((hmr.out.below st.out.old).below hb2.out) (by omega) hb2.out.size ?_; intro v2 w3 hown2 hb3; obtain ⟨B3, cB, rfl, hB3⟩ := shape hown2 hsum.out; have hB3 := hide hB3; have hb3 := hide (hb2.out.trans hb3); have st3 := hide (st.out.below hb3.out); have h3 := hide (st3.out.held hk hk30 hnc1 hroom1 hit.out); clear hown2)
              | (go_at_call 26; (with_reducible refine (read_whole (W := W) (E := 5) h3.out hB3.out hmo.out (by omega) hE.out).mono ?_); rintro e w5 ⟨rfl, k5⟩; have st5 := hide (st3.out.below k5); have h5 := hide (st5.out.held hk hk30 hnc1 hroom1 hit.out); clear k5)
              | (go_at_call 25; (with_reducible refine (hw1.out _).mono ?_); rintro e w6 ⟨rfl, rfl⟩)
              | (go_at_call 26; (with_reducible refine (read_full (W := W) h5.out st5.out.b (by omega)).mono ?_); rintro e w6 ⟨rfl, k6⟩; have hb6 := hide (kept_trans st5.out.old k6); clear k6)
              | (go_at_call 3; (with_reducible refine (runs_any _).mono ?_); rintro e w9 ⟨rfl, k9⟩))
            go_ret
            exact ⟨rfl, kept_trans hb6.out k9⟩
          · have hJlt : J < N := by omega
            have tj : ((J : Int) == (N : Int)) = false := by rw [beq_eq_false_iff_ne]; omega
            have tj2 : (J == N) = false := by rw [beq_eq_false_iff_ne]; omega
            clear hJN
            go_wp2_with (first
              | (at_builtin; refine wpList_append_lies rfl (.tmp 57) (.tmp 58) 23 rfl wr.heap.size 5 i0 _ Try.underlying23 hi.out hz0.out hz1.out hz2.out rfl _ 0 [] rfl hown0.out P N cp (enc it k) rfl st.out.b.len st.out.b.nil hP1.out (by omega) (by simp) ?_; intro v1 w2 hown1 hb1; simp only [Nat.zero_add, List.nil_append] at hown1; have ho1 := hide hown1; have hb2 := hide (((Below.refl wr.heap.size wr).alloc (Nat.le_refl _) (.cells #[] 5)).trans hb1); clear hown1 hb1)
              | (at_builtin; refine wpList_append_lies rfl (.tmp 59) (.tmp 60) 23 rfl wr.heap.size 5 i0 _ Try.underlying23 hi.out hz0.out hz1.out hz2.out rfl v1 N (enc it k) rfl ho1.out A 50 c (zs.take 50) rfl hml.out S.out.nil ((hmr.out.below st.out.old).below hb2.out) (by omega) hb2.out.size ?_; intro v2 w3 hown2 hb3; obtain ⟨B3, cB, rfl, hB3⟩ := shape hown2 hsum.out; have hB3 := hide hB3; have hb3 := hide (hb2.out.trans hb3); have st3 := hide (st.out.below hb3.out); have h3 := hide (st3.out.held hk hk30 hnc1 hroom1 hit.out); clear hown2)
              | (go_at_call 26; (with_reducible refine (read_whole (W := W) (E := 5) h3.out hB3.out hmo.out (by omega) hE.out).mono ?_); rintro e w5 ⟨rfl, k5⟩; have st5 := hide (st3.out.below k5); have h5 := hide (st5.out.held hk hk30 hnc1 hroom1 hit.out); clear k5)
              | (go_at_call 25; (with_reducible refine (hw1.out _).mono ?_); rintro e w6 ⟨rfl, rfl⟩)
              | (go_at_call 26; (with_reducible refine (read_part (W := W) h5.out st5.out.b (by omega) hJlt).mono ?_); rintro e w6 ⟨b6, rfl, k6⟩; have hb6 := hide (kept_trans st5.out.old k6); clear k6)
              | (go_at_call 3; (with_reducible refine (runs_any _).mono ?_); rintro e w9 ⟨rfl, k9⟩))
            go_ret
            exact ⟨rfl, kept_trans hb6.out k9⟩
        · have tm : decide (50 < n) = false := decide_eq_false hm
          have tm2 : decide ((50 : Int) < (n : Int)) = false := decide_eq_false (by omega)
          by_cases hn0 : 0 < n
          · have tn : decide (0 < n) = true := decide_eq_true hn0
            have hml := hide S.out.len
            have hmr := hide (show Lies W A (zs) from S.out.lies)
            have hmo := hide (show Octets (zs) from S.out.oct)
            have hsum := hide (show (enc it k ++ zs).length = N + n by rw [List.length_append, st.out.b.len, hml.out])
            have hE := hide (show (if (enc it k).length < N + n then (5 : Int) else 0) = 5 by rw [st.out.b.len]; rw [if_pos (by omega)])
            by_cases hJN : J = N
            · subst hJN
              go_wp2_with (first
                | (at_builtin; refine wpList_append_lies rfl (.tmp 57) (.tmp 58) 23 rfl wr.heap.size 5 i0 _ Try.underlying23 hi.out hz0.out hz1.out hz2.out rfl _ 0 [] rfl hown0.out P J cp (enc it k) rfl st.out.b.len st.out.b.nil hP1.out (by omega) (by simp) ?_; intro v1 w2 hown1 hb1; simp only [Nat.zero_add, List.nil_append] at hown1; have ho1 := hide hown1; have hb2 := hide (((Below.refl wr.heap.size wr).alloc (Nat.le_refl _) (.cells #[] 5)).trans hb1); clear hown1 hb1)
                | (at_builtin; refine wpList_append_lies rfl (.tmp 59) (.tmp 60) 23 rfl wr.heap.size 5 i0 _ Try.underlying23 hi.out hz0.out hz1.out hz2.out rfl v1 J (enc it k) rfl ho1.out A n c (zs) rfl hml.out S.out.nil ((hmr.out.below st.out.old).below hb2.out) (by omega) hb2.out.size ?_; intro v2 w3 hown2 hb3; obtain ⟨B3, cB, rfl, hB3⟩ := shape hown2 hsum.out; have hB3 := hide hB3; have hb3 := hide (hb2.out.trans hb3); have st3 := hide (st.out.below hb3.out); have h3 := hide (st3.out.held hk hk30 hnc1 hroom1 hit.out); clear hown2)
                | (go_at_call 26; (with_reducible refine (read_whole (W := W) (E := 5) h3.out hB3.out hmo.out (by omega) hE.out).mono ?_); rintro e w5 ⟨rfl, k5⟩; have st5 := hide (st3.out.below k5); have h5 := hide (st5.out.held hk hk30 hnc1 hroom1 hit.out); clear k5)
                | (go_at_call 25; (with_reducible refine (hw1.out _).mono ?_); rintro e w6 ⟨rfl, rfl⟩)
                | (go_at_call 26; (with_reducible refine (read_full (W := W) h5.out st5.out.b (by omega)).mono ?_); rintro e w6 ⟨rfl, k6⟩; have hb6 := hide (kept_trans st5.out.old k6); clear k6)
                | (go_at_call 3; (with_reducible refine (runs_any _).mono ?_); rintro e w9 ⟨rfl, k9⟩))
              go_ret
              exact ⟨rfl, kept_trans hb6.out k9⟩
            · have hJlt : J < N := by omega
              have tj : ((J : Int) == (N : Int)) = false := by rw [beq_eq_false_iff_ne]; omega
              have tj2 : (J == N) = false := by rw [beq_eq_false_iff_ne]; omega
              clear hJN
              go_wp2_with (first
                | (at_builtin; refine wpList_append_lies rfl (.tmp 57) (.tmp 58) 23 rfl wr.heap.size 5 i0 _ Try.underlying23 hi.out hz0.out hz1.out hz2.out rfl _ 0 [] rfl hown0.out P N cp (enc it k) rfl st.out.b.len st.out.b.nil hP1.out (by omega) (by simp) ?_; intro v1 w2 hown1 hb1; simp only [Nat.zero_add, List.nil_append] at hown1; have ho1 := hide hown1; have hb2 := hide (((Below.refl wr.heap.size wr).alloc (Nat.le_refl _) (.cells #[] 5)).trans hb1); clear hown1 hb1)
                | (at_builtin; refine wpList_append_lies rfl (.tmp 59) (.tmp 60) 23 rfl wr.heap.size 5 i0 _ Try.underlying23 hi.out hz0.out hz1.out hz2.out rfl v1 N (enc it k) rfl ho1.out A n c (zs) rfl hml.out S.out.nil ((hmr.out.below st.out.old).below hb2.out) (by omega) hb2.out.size ?_; intro v2 w3 hown2 hb3; obtain ⟨B3, cB, rfl, hB3⟩ := shape hown2 hsum.out; have hB3 := hide hB3; have hb3 := hide (hb2.out.trans hb3); have st3 := hide (st.out.below hb3.out); have h3 := hide (st3.out.held hk hk30 hnc1 hroom1 hit.out); clear hown2)
                | (go_at_call 26; (with_reducible refine (read_whole (W := W) (E := 5) h3.out hB3.out hmo.out (by omega) hE.out).mono ?_); rintro e w5 ⟨rfl, k5⟩; have st5 := hide (st3.out.below k5); have h5 := hide (st5.out.held hk hk30 hnc1 hroom1 hit.out); clear k5)
                | (go_at_call 25; (with_reducible refine (hw1.out _).mono ?_); rintro e w6 ⟨rfl, rfl⟩)
                | (go_at_call 26; (with_reducible refine (read_part (W := W) h5.out st5.out.b (by omega) hJlt).mono ?_); rintro e w6 ⟨b6, rfl, k6⟩; have hb6 := hide (kept_trans st5.out.old k6); clear k6)
                | (go_at_call 3; (with_reducible refine (runs_any _).mono ?_); rintro e w9 ⟨rfl, k9⟩))
              go_ret
              exact ⟨rfl, kept_trans hb6.out k9⟩
          · have tn : decide (0 < n) = false := decide_eq_false hn0
            have hml := hide S.out.len
            have hmr := hide (show Lies W A (zs) from S.out.lies)
            have hmo := hide (show Octets (zs) from S.out.oct)
            have hsum := hide (show (enc it k ++ zs).length = N + n by rw [List.length_append, st.out.b.len, hml.out])
            have hE := hide (show (if (enc it k).length < N + n then (5 : Int) else 0) = 0 by rw [st.out.b.len]; rw [if_neg (by omega)])
            by_cases hJN : J = N
            · subst hJN
              go_wp2_with (first
                | (at_builtin; refine wpList_append_lies rfl (.tmp 57) (.tmp 58) 23 rfl wr.heap.size 5 i0 _ Try.underlying23 hi.out hz0.out hz1.out hz2.out rfl _ 0 [] rfl hown0.out P J cp (enc it k) rfl st.out.b.len st.out.b.nil hP1.out (by omega) (by simp) ?_; intro v1 w2 hown1 hb1; simp only [Nat.zero_add, List.nil_append] at hown1; have ho1 := hide hown1; have hb2 := hide (((Below.refl wr.heap.size wr).alloc (Nat.le_refl _) (.cells #[] 5)).trans hb1); clear hown1 hb1)
                | (at_builtin; refine wpList_append_lies rfl (.tmp 59) (.tmp 60) 23 rfl wr.heap.size 5 i0 _ Try.underlying23 hi.out hz0.out hz1.out hz2.out rfl v1 J (enc it k) rfl ho1.out A n c (zs) rfl hml.out S.out.nil ((hmr.out.below st.out.old).below hb2.out) (by omega) hb2.out.size ?_; intro v2 w3 hown2 hb3; obtain ⟨B3, cB, rfl, hB3⟩ := shape hown2 hsum.out; have hB3 := hide hB3; have hb3 := hide (hb2.out.trans hb3); have st3 := hide (st.out.below hb3.out); have h3 := hide (st3.out.held hk hk30 hnc1 hroom1 hit.out); clear hown2)
                | (go_at_call 26; (with_reducible refine (read_whole (W := W) (E := 0) h3.out hB3.out hmo.out (by omega) hE.out).mono ?_); rintro e w5 ⟨rfl, k5⟩; have st5 := hide (st3.out.below k5); have h5 := hide (st5.out.held hk hk30 hnc1 hroom1 hit.out); clear k5)
                | (go_at_call 25; (with_reducible refine (hw1.out _).mono ?_); rintro e w6 ⟨rfl, rfl⟩)
                | (go_at_call 26; (with_reducible refine (read_full (W := W) h5.out st5.out.b (by omega)).mono ?_); rintro e w6 ⟨rfl, k6⟩; have hb6 := hide (kept_trans st5.out.old k6); clear k6)
                | (go_at_call 3; (with_reducible refine (runs_any _).mono ?_); rintro e w9 ⟨rfl, k9⟩))
              go_ret
              exact ⟨rfl, kept_trans hb6.out k9⟩
            · have hJlt : J < N := by omega
              have tj : ((J : Int) == (N : Int)) = false := by rw [beq_eq_false_iff_ne]; omega
              have tj2 : (J == N) = false := by rw [beq_eq_false_iff_ne]; omega
              clear hJN
              go_wp2_with (first
                | (at_builtin; refine wpList_append_lies rfl (.tmp 57) (.tmp 58) 23 rfl wr.heap.size 5 i0 _ Try.underlying23 hi.out hz0.out hz1.out hz2.out rfl _ 0 [] rfl hown0.out P N cp (enc it k) rfl st.out.b.len st.out.b.nil hP1.out (by omega) (by simp) ?_; intro v1 w2 hown1 hb1; simp only [Nat.zero_add, List.nil_append] at hown1; have ho1 := hide hown1; have hb2 := hide (((Below.refl wr.heap.size wr).alloc (Nat.le_refl _) (.cells #[] 5)).trans hb1); clear hown1 hb1)
                | (at_builtin; refine wpList_append_lies rfl (.tmp 59) (.tmp 60) 23 rfl wr.heap.size 5 i0 _ Try.underlying23 hi.out hz0.out hz1.out hz2.out rfl v1 N (enc it k) rfl ho1.out A n c (zs) rfl hml.out S.out.nil ((hmr.out.below st.out.old).below hb2.out) (by omega) hb2.out.size ?_; intro v2 w3 hown2 hb3; obtain ⟨B3, cB, rfl, hB3⟩ := shape hown2 hsum.out; have hB3 := hide hB3; have hb3 := hide (hb2.out.trans hb3); have st3 := hide (st.out.below hb3.out); have h3 := hide (st3.out.held hk hk30 hnc1 hroom1 hit.out); clear hown2)
                | (go_at_call 26; (with_reducible refine (read_whole (W := W) (E := 0) h3.out hB3.out hmo.out (by omega) hE.out).mono ?_); rintro e w5 ⟨rfl, k5⟩; have st5 := hide (st3.out.below k5); have h5 := hide (st5.out.held hk hk30 hnc1 hroom1 hit.out); clear k5)
                | (go_at_call 25; (with_reducible refine (hw1.out _).mono ?_); rintro e w6 ⟨rfl, rfl⟩)
                | (go_at_call 26; (with_reducible refine (read_part (W := W) h5.out st5.out.b (by omega) hJlt).mono ?_); rintro e w6 ⟨b6, rfl, k6⟩; have hb6 := hide (kept_trans st5.out.old k6); clear k6)
                | (go_at_call 3; (with_reducible refine (runs_any _).mono ?_); rintro e w9 ⟨rfl, k9⟩))
              go_ret
              exact ⟨rfl, kept_trans hb6.out k9⟩
set_option maxRecDepth 100000 in
theorem lifted (os : Os) (started : os.Started) (H : Type) (enc : TypeId × Value → H) :
    ReturnsInHanded {} Try.checked os 6 .any (Rows.packBackSpec.pre6 enc Try.prog Try.f6 Rows.packBackRow.domain false) (Rows.packBackSpec.post enc Try.prog Try.f6 false true false false) := by
  refine returnsInHanded_of_change_sized (C := Try.checked) own started (by kernel_rfl) Try.func6
    (ChangeSpec.witness6 (enc := enc) (C := Try.checked) false ⟨#[], #[.slice none 0 0, .slice none 0 0, .int .i64 0], []⟩ 8 (by kernel_rfl) (by kernel_rfl) (by kernel_rfl) (by kernel_rfl)) ?_
  intro W base args ds gs before hval0 hW _ hsz0 _
  have hval : ∀ (j : Nat) t v, Try.f6.params[j]? = some t → args[j]? = some v → Value.okWide Try.prog W .any base t v := hval0
  have hW' := hW
  obtain ⟨p, q, hA0, hV, rfl, _, _⟩ := hW
  have hA : DataW.TrodAll enc Try.prog W 0 (fun _ => true) true Try.f6.params.toList args.toList ds p := hA0
  have hsz : (DataW.weightsEach Try.prog (Try.f6.params.toList ++ Rows.packBackSpec.plain.varTypes Try.prog) (ds ++ gs)).all (· ≤ reachBytes) = true := hsz0
  rw [Try.params6] at hA hval hsz
  obtain ⟨v0, vs0, d0, ds0, p0, q0, hargs, rfl, rfl, h0, r0⟩ := trodAll_cons hA
  obtain ⟨v1, vs1, d1, ds1, p1, q1, rfl, rfl, rfl, h1, r1⟩ := trodAll_cons r0
  obtain ⟨v2, vs2, d2, ds2, p2, q2, rfl, rfl, rfl, h2, r2⟩ := trodAll_cons r1
  obtain ⟨rfl, rfl, rfl⟩ := trodAll_nil r2
  obtain rfl : args = #[v0, v1, v2] := by cases args; simp_all
  obtain ⟨rfl, rfl⟩ := trodVars_none hV
  have k0 := h0
  have lt0 : ∀ x ∈ p0, x.block < W.heap.size := by obtain ⟨m, hm⟩ := k0; exact DataW.trod_lt m _ _ _ hm
  obtain ⟨A0, n0, c0, rfl⟩ := okWide_slice Try.underlying29 (hval 0 29 v0 rfl rfl)
  obtain ⟨z0, s0⟩ := items_in h0
  have k1 := h1
  have lt1 : ∀ x ∈ p1, x.block < W.heap.size := by obtain ⟨m, hm⟩ := k1; exact DataW.trod_lt m _ _ _ hm
  obtain ⟨A1, n1, c1, rfl⟩ := okWide_slice Try.underlying23 (hval 1 23 v1 rfl rfl)
  obtain ⟨z1, s1⟩ := slice_in (j := 1) h1 hsz rfl rfl
  obtain ⟨a2, rfl, rfl, rfl, w2⟩ := open_int Try.underlying3 (hval 2 3 v2 rfl rfl) h2
  clear hA0 hval0
  refine (walk A0 n0 c0 z0 A1 n1 c1 z1 a2 W s0 s1 (bounds_i64 w2)).mono fun e W' ⟨he, bel⟩ => ?_
  subst he
  exact ⟨_, rfl, _, _, _, [], _, [], hW', trodAll_mk1 (shut_bool Try.underlying4 _), (trodAll_cons_mk (Below.trod laidOut (by kernel_rfl) (of_decide_eq_true (by kernel_rfl)) k0 bel lt0) (trodAll_cons_mk (Below.trod laidOut (by kernel_rfl) (of_decide_eq_true (by kernel_rfl)) k1 bel lt1) (trodAll_cons_mk (shut_int Try.underlying3 w2) trodAll_mk0))), rfl, bel.frame _, fun h => by cases h⟩
theorem over : Rows.packBackRow.holds Try.pinned (OpenSpec.ofChange Rows.packBackSpec) :=
  OpenClaim.holds_of_wide 6 Try.f6 rfl rfl rfl rfl rfl rfl rfl ⟨rfl, rfl, rfl, rfl, rfl⟩ rfl rfl rfl rfl rfl (by kernel_rfl) Try.func6 (by kernel_rfl)
    (of_decide_eq_true (by kernel_rfl)) (by unfold Func.isWrapper; first | (rw [if_pos (by decide +kernel)]; kernel_rfl) | (rw [if_neg (by decide +kernel)]; exact ⟨rfl, rfl⟩))
    (fun os started H enc _ => lifted os started H enc)
theorem proved : Rows.PackBackSaid := over
end Go.Proofs.Ytmjnidgjehlniaa.packBack
