/- Proved: the law PackReads returns true. Conditions: none beyond the row's own. -/
import Derived.Test.YtmjnidgjehlniaaFrame
import Derived.Test.YtmjnidgjehlniaaRuns
import Derived.Test.YtmjnidgjehlniaaItems
import Derived.Deep.RegionWith
import Derived.Deep.DeepCutAuto
namespace Go.Proofs.Ytmjnidgjehlniaa.packReads
open Go.ChangeShapes Go.WideShapes Go.ChangeAt Go.RowKit
theorem front {w : World} {A : Option Addr} {zs ys : List Int} (h : Lies w A (zs ++ ys)) : Lies w A zs := by
  have := h.take zs.length
  rwa [List.take_left] at this
theorem deep_below {w w' : World} {B : Nat} {A : Option Addr} {zs : List Int} (h : Deep w B A zs) (hb : Below B w w') : Deep w' B A zs := h.keep fun k hk => hb.block k hk
theorem deep_more {w : World} {B B' : Nat} {A : Option Addr} {zs : List Int} (h : Deep w B A zs) (hB : B ≤ B') : Deep w B' A zs := fun hn => by
  obtain ⟨b, off, e, hlt, hc⟩ := h hn
  exact ⟨b, off, e, by omega, hc⟩
/-- Both readers, the full list, and what was there. -/
structure Pass (W w : World) (g h : Nat) (zs : List Int) (i : Nat) (e : Int) : Prop where
  p : Rdr 60 w g g zs i e
  r : Rdr 44 w W.heap.size h zs i e
  full : Deep w g (some ⟨W.heap.size, 0, none⟩) (zs ++ pad 80 12)
  old : Below W.heap.size W w
  gh : g < h
  hg : W.heap.size ≤ g
section
variable {W w w' : World} {g h i : Nat} {zs : List Int} {e : Int}
theorem Pass.drewN (s : Pass W w g h zs i e) (n : Nat) : Pass W (w.drewN n) g h zs i e := ⟨s.p.drewN n, s.r.drewN n, s.full, below_drewN' s.old n, s.gh, s.hg⟩
theorem Pass.drew (s : Pass W w g h zs i e) : Pass W w.drew g h zs i e := s.drewN 1
theorem call_pass (s : Pass W w g h zs i e) (k n : Int) (t : ByteArray) (f : Bool) {b off j : Nat} (hl : b < W.heap.size) (hx : ItAt W b off j ⟨k, n, t, f⟩) :
    Calls Try.prog 22 #[.pointer (some ⟨g, 0, none⟩), .pointer (some ⟨h, 0, none⟩), .agg #[.int .i64 k, .int .i64 n, .string t, .bool f]] w fun x w' =>
      x = .returned (.bool true) ∧ Pass W w' g h zs (itA zs i e k n) (itE zs i e k n) ∧ ItAt w' b off j ⟨k, n, t, f⟩ ∧ w'.cell? ⟨h, 1, none⟩ = some (.int .i64 (itA zs i e k n)) ∧ w'.cell? ⟨h, 2, none⟩ = some (.int .i64 (itE zs i e k n)) :=
  (call_any s.p s.r s.gh s.hg k n t f).mono fun _ _ ⟨hx', hp, hr, hb⟩ => by
    have ho := s.old.trans (hb.mono s.hg)
    obtain ⟨_, _, _, c1, c2, _⟩ := hr.cells
    exact ⟨hx', ⟨hp, hr, deep_below s.full hb, ho, s.gh, s.hg⟩, hx.below ho hl, c1, c2⟩
end
set_option maxRecDepth 100000 in
set_option maxHeartbeats 8000000 in
theorem walk (A : Option Addr) (n c : Nat) (zs : List Int) (A1 : Option Addr) (n1 c1 : Nat) (it : Nat → It) (W : World) (s : SliceIn W A n c zs) (t : ItemsIn W A1 n1 c1 it) :
    Calls Try.prog 5 #[.slice A n c, .slice A1 n1 c1] W fun e w' => e = .returned (.bool true) ∧ Below W.heap.size W w' := by
  have hnc := s.le
  have hroom := s.room
  have hnc1 := t.le
  have hroom1 := t.room
  have hit := hide t.at_
  have S := hide s
  clear s t
  have s1 : (0 : Int) ≤ (n : Int) := by omega
  have s2 : (n : Int) ≤ (n : Int) + 80 := by omega
  have s3 : (n : Int) ≤ ((n + 80 : Nat) : Int) := by omega
  go_enter Try.func5, Try.ntmps5
  go_wp2_with (first
    | (go_at_call 14; (with_reducible refine (roomy_any A n c zs _ W S.out.len S.out.lies (by omega)).mono ?_); rintro e w1 ⟨rfl, hown, hb1⟩; have hl1 := hide (Lies.of_own hown); have HB := hide hb1; have hg1 := hb1.size; clear hown hb1)
    | (go_at_call 20; (with_reducible refine (pread_any _ n _ zs w1 S.out.len (front hl1.out) S.out.oct (fun h => by cases h) (by omega)).mono ?_); rintro e w2 ⟨g, rfl, hg0, p1, k1⟩; have hgw : W.heap.size ≤ g := Nat.le_trans hg1 hg0; have p1 := hide p1; have hl2 := hide (deep_more (deep_below hl1.out.deep k1) hg0); have HB2 := hide (kept_trans HB.out k1); clear k1)
    | (go_at_call 21; (with_reducible refine (rread_any A n c W.heap.size zs w2 S.out.len (deep_below S.out.lies.deep HB2.out) HB2.out.size S.out.oct hnc (by omega)).mono ?_); rintro e w3 ⟨h, rfl, hh0, r1, k2⟩; have gh : g < h := Nat.lt_of_lt_of_le p1.out.lt hh0; have st : Hid (Pass W w3 g h zs 0 0) := hide ⟨p1.out.below k2, r1, deep_below hl2.out (k2.mono (Nat.le_of_lt p1.out.lt)), kept_trans HB2.out k2, gh, hgw⟩; clear k2 r1))
  clear HB HB2 hl1 hl2 p1 hg0 hg1 hgw gh hh0
  go_loopw [8] (fun i wr => ∃ (k j : Nat) (e : Int), k ≤ 60 ∧ i = .int .i64 k ∧ Hid (Pass W wr g h zs j e)) (fun i _ => 60 - (intOf i).toNat)
  case atStart => exact ⟨0, 0, 0, by omega, rfl, st⟩
  case round =>
    clear st
    obtain ⟨k, j, e, hk, rfl, st⟩ := hrel
    by_cases hlt : k < n1 ∧ k < 60
    · obtain ⟨h1, h2⟩ := hlt
      obtain ⟨b, off, rfl, hbl, hx⟩ := hit.out k h1
      have hw := hx
      have hx := hx.below st.out.old hbl
      generalize it k = x at *
      obtain ⟨xk, xn, xs, xf⟩ := x
      have q0 := hx.c0
      have q1 := hx.c1
      have q2 := hx.c2
      have q3 := hx.c3
      simp only at q0 q1 q2 q3
      have hx := hide hx
      have hw := hide hw
      have t1 : decide (k < n1) = true := decide_eq_true h1
      have i1 : (0 : Int) ≤ (k : Int) := by omega
      have i2 : (k : Int) < (n1 : Int) := by omega
      go_wp2_with fail
      go_region_with
        (first
          | (go_at_call 22; (with_reducible refine (call_pass (W := W) (zs := zs) (i := j) (e := e) (by first | with_reducible exact st.out | with_reducible exact Pass.drew st.out) xk xn xs xf hbl hw.out).mono ?_); rintro x w4 ⟨rfl, s4, x4, d1, d2⟩; have e0 := x4.c0; have e1 := x4.c1; have e2 := x4.c2; have e3 := x4.c3; have s4 := hide s4; have x4 := hide x4)
          | (go_at_call 23; (with_reducible refine (pwrong_any s4.out.p).mono ?_); rintro x w5 ⟨rfl, rfl⟩)
          | (go_at_call 24; (with_reducible refine (pat_any s4.out.p).mono ?_); rintro x w5 ⟨rfl, rfl⟩))
      all_goals
        go_wp2_with fail
        go_roundw
        case rel => exact ⟨k + 1, _, _, by omega, by go_num, hide (by first | exact s4.out | exact s4.out.drewN _)⟩
        case measure => simp [intOf]; omega
    · have hc : (decide (k < n1) = false) ∨ (decide (k < n1) = true ∧ decide (k < 60) = false ∧ decide ((k : Int) < 60) = false) := by
        by_cases h1 : k < n1
        · exact .inr ⟨decide_eq_true h1, decide_eq_false (by omega), decide_eq_false (by omega)⟩
        · exact .inl (decide_eq_false h1)
      clear hlt
      have hin := hide (intact_any (some ⟨W.heap.size, 0, none⟩) A (n + 80) n (n + 80) c _ zs 12 wr (by rw [List.length_append, length_pad, S.out.len]) S.out.len (st.out.full.lies (Nat.le_of_lt st.out.p.lt)) (S.out.lies.below st.out.old) (by omega) (by omega) (by omega) rfl)
      rcases hc with t1 | ⟨t1, t2, t3⟩
      all_goals
        go_wp2_with (first
          | (go_at_call 19; (with_reducible refine hin.out.mono ?_); rintro e w4 ⟨rfl, q4, rfl⟩)
          | (go_at_call 3; (with_reducible refine (runs_any _).mono ?_); rintro e w9 ⟨rfl, k9⟩))
        go_ret
        exact ⟨rfl, kept_trans (by repeat (first | exact st.out.old | apply kept_drewN)) k9⟩
set_option maxRecDepth 100000 in
theorem lifted (os : Os) (started : os.Started) (H : Type) (enc : TypeId × Value → H) :
    ReturnsInHanded {} Try.checked os 5 .any (Rows.packReadsSpec.pre6 enc Try.prog Try.f5 Rows.packReadsRow.domain false) (Rows.packReadsSpec.post enc Try.prog Try.f5 false true false false) := by
  refine returnsInHanded_of_change_sized (C := Try.checked) own started (by kernel_rfl) Try.func5
    (ChangeSpec.witness6 (enc := enc) (C := Try.checked) false ⟨#[], #[.slice none 0 0, .slice none 0 0], []⟩ 8 (by kernel_rfl) (by kernel_rfl) (by kernel_rfl) (by kernel_rfl)) ?_
  intro W base args ds gs before hval0 hW _ hsz0 _
  have hval : ∀ (j : Nat) t v, Try.f5.params[j]? = some t → args[j]? = some v → Value.okWide Try.prog W .any base t v := hval0
  have hW' := hW
  obtain ⟨p, q, hA0, hV, rfl, _, _⟩ := hW
  have hA : DataW.TrodAll enc Try.prog W 0 (fun _ => true) true Try.f5.params.toList args.toList ds p := hA0
  have hsz : (DataW.weightsEach Try.prog (Try.f5.params.toList ++ Rows.packReadsSpec.plain.varTypes Try.prog) (ds ++ gs)).all (· ≤ reachBytes) = true := hsz0
  rw [Try.params5] at hA hval hsz
  obtain ⟨v0, vs0, d0, ds0, p0, q0, hargs, rfl, rfl, h0, r0⟩ := trodAll_cons hA
  obtain ⟨v1, vs1, d1, ds1, p1, q1, rfl, rfl, rfl, h1, r1⟩ := trodAll_cons r0
  obtain ⟨rfl, rfl, rfl⟩ := trodAll_nil r1
  obtain rfl : args = #[v0, v1] := by cases args; simp_all
  obtain ⟨rfl, rfl⟩ := trodVars_none hV
  have k0 := h0
  have lt0 : ∀ x ∈ p0, x.block < W.heap.size := by obtain ⟨m, hm⟩ := k0; exact DataW.trod_lt m _ _ _ hm
  obtain ⟨A0, n0, c0, rfl⟩ := okWide_slice Try.underlying23 (hval 0 23 v0 rfl rfl)
  obtain ⟨z0, s0⟩ := slice_in (j := 0) h0 hsz rfl rfl
  have k1 := h1
  have lt1 : ∀ x ∈ p1, x.block < W.heap.size := by obtain ⟨m, hm⟩ := k1; exact DataW.trod_lt m _ _ _ hm
  obtain ⟨A1, n1, c1, rfl⟩ := okWide_slice Try.underlying29 (hval 1 29 v1 rfl rfl)
  obtain ⟨z1, s1⟩ := items_in h1
  clear hA0 hval0
  refine (walk A0 n0 c0 z0 A1 n1 c1 z1 W s0 s1).mono fun e W' ⟨he, bel⟩ => ?_
  subst he
  exact ⟨_, rfl, _, _, _, [], _, [], hW', trodAll_mk1 (shut_bool Try.underlying4 _), (trodAll_cons_mk (Below.trod laidOut (by kernel_rfl) (of_decide_eq_true (by kernel_rfl)) k0 bel lt0) (trodAll_cons_mk (Below.trod laidOut (by kernel_rfl) (of_decide_eq_true (by kernel_rfl)) k1 bel lt1) trodAll_mk0)), rfl, bel.frame _, fun h => by cases h⟩
theorem over : Rows.packReadsRow.holds Try.pinned (OpenSpec.ofChange Rows.packReadsSpec) :=
  OpenClaim.holds_of_wide 5 Try.f5 rfl rfl rfl rfl rfl rfl rfl ⟨rfl, rfl, rfl, rfl, rfl⟩ rfl rfl rfl rfl rfl (by kernel_rfl) Try.func5 (by kernel_rfl)
    (of_decide_eq_true (by kernel_rfl)) (by unfold Func.isWrapper; first | (rw [if_pos (by decide +kernel)]; kernel_rfl) | (rw [if_neg (by decide +kernel)]; exact ⟨rfl, rfl⟩))
    (fun os started H enc _ => lifted os started H enc)
theorem proved : Rows.PackReadsSaid := over
end Go.Proofs.Ytmjnidgjehlniaa.packReads
