/- What the law CmdRuns comes to: true. No condition. -/
import Derived.Test.YtigbplmfhnamkaaSame2
import Derived.Deep.RegionHeld3
import Derived.Deep.DeepCutAuto
namespace Go.Proofs.Ytigbplmfhnamkaa
open Go.RowKit
/-- Three commands that lie in the call's own memory, and what was there. -/
structure Tri (W w : World) (g1 : Nat) (x1 : Cm) (g2 : Nat) (x2 : Cm) (g3 : Nat) (x3 : Cm) : Prop where
  a : Seven w g1 x1
  b : Seven w g2 x2
  c : Seven w g3 x3
  la : g1 < w.heap.size
  lb : g2 < w.heap.size
  lc : g3 < w.heap.size
  old : Below W.heap.size W w
section
variable {W w w' : World} {g1 g2 g3 : Nat} {x1 x2 x3 : Cm}
theorem Tri.drew (s : Tri W w g1 x1 g2 x2 g3 x3) : Tri W w.drew g1 x1 g2 x2 g3 x3 := ⟨s.a.drew, s.b.drew, s.c.drew, s.la, s.lb, s.lc, s.old.drew⟩
theorem Tri.step (s : Tri W w g1 x1 g2 x2 g3 x3) (hb : Below w.heap.size w w') : Tri W w' g1 x1 g2 x2 g3 x3 :=
  have h := hb.size
  ⟨s.a.kept (hb.mono s.la), s.b.kept (hb.mono s.lb), s.c.kept (hb.mono s.lc), Nat.lt_of_lt_of_le s.la h, Nat.lt_of_lt_of_le s.lb h, Nat.lt_of_lt_of_le s.lc h, s.old.trans (hb.mono s.old.size)⟩
/-- A call that makes memory leaves them. -/
theorem Tri.call {P : Program} {F : FuncId} {args : Array Value} {v : Value} (s : Tri W w g1 x1 g2 x2 g3 x3) (hf : Calls P F args w fun e w' => e = .returned v ∧ Below w.heap.size w w') :
    Calls P F args w fun e w' => e = .returned v ∧ Cells7 w' g1 x1 ∧ Cells7 w' g2 x2 ∧ Cells7 w' g3 x3 ∧ Tri W w' g1 x1 g2 x2 g3 x3 :=
  hf.mono fun _ _ ⟨he, hb⟩ => have z := s.step hb; ⟨he, z.a.cells, z.b.cells, z.c.cells, z⟩
end
/-- The law's own command of a client. -/
theorem law_of (k c : Int) (a b : ByteArray) (w : World) :
    Calls Try.prog 9 #[.int .i64 k, .int .i64 c, .string a, .string b] w fun e w' => e = .returned (valC ⟨k, c, 2, a, b, ⟨#[]⟩, ⟨#[]⟩⟩) ∧ Below w.heap.size w w' := by
  go_enter Try.func9, Try.ntmps9
  go_wp2
  exact bodyPost_ret (v := valC ⟨k, c, 2, a, b, ⟨#[]⟩, ⟨#[]⟩⟩) (by simp [results, Try.results9, go_sem, valC]) rfl ⟨rfl, (Below.refl _ _).alloc (Nat.le_refl _) _⟩
theorem clash_is {k c q : Int} {a b o v : ByteArray} {k' c' q' : Int} {a' b' o' v' : ByteArray} {r : Bool} (w : World) (hr : clashC ⟨k, c, q, a, b, o, v⟩ ⟨k', c', q', a', b', o', v'⟩ = r) (ha : a.size ≤ 140737488355328) (ha' : a'.size ≤ 140737488355328) :
    Calls Try.prog 10 #[.agg #[.int .i64 k, .int .i64 c, .int .i64 q, .string a, .string b, .string o, .string v], .agg #[.int .i64 k', .int .i64 c', .int .i64 q', .string a', .string b', .string o', .string v']] w
      fun e w' => e = .returned (.bool r) ∧ Below w.heap.size w w' := by
  rw [← hr]; exact clash_any k c q a b o v k' c' q' a' b' o' v' w ha ha'
theorem cput_nil {k c q : Int} {a b o v : ByteArray} {ys : List Int} {n : Nat} (w : World) (hy : packC ⟨k, c, q, a, b, o, v⟩ = ys) (hn : ys.length = n) :
    Calls Try.prog 12 #[.slice none 0 0, .agg #[.int .i64 k, .int .i64 c, .int .i64 q, .string a, .string b, .string o, .string v]] w (Made w n ys) := by
  subst hy hn
  have h := cput_any none 0 0 [] k c q a b o v w rfl Lies.none_ (fun _ => rfl) (by omega)
  rwa [List.nil_append, Nat.zero_add] at h
theorem pack_get : packC ⟨1, 1, 2, ⟨#[97]⟩, ⟨#[]⟩, ⟨#[]⟩, ⟨#[]⟩⟩ = [2, 2, 4, 2, 97] := by decide +kernel
theorem pack_zero : packC ⟨0, 0, 0, ⟨#[]⟩, ⟨#[]⟩, ⟨#[]⟩, ⟨#[]⟩⟩ = [0] := by decide +kernel
theorem clash_1 : clashC ⟨2, 1, 2, ⟨#[97]⟩, ⟨#[]⟩, ⟨#[]⟩, ⟨#[]⟩⟩ ⟨1, 2, 2, ⟨#[97]⟩, ⟨#[]⟩, ⟨#[]⟩, ⟨#[]⟩⟩ = true := by decide +kernel
theorem clash_2 : clashC ⟨1, 1, 2, ⟨#[97]⟩, ⟨#[]⟩, ⟨#[]⟩, ⟨#[]⟩⟩ ⟨1, 2, 2, ⟨#[97]⟩, ⟨#[]⟩, ⟨#[]⟩, ⟨#[]⟩⟩ = false := by decide +kernel
theorem clash_3 : clashC ⟨1, 1, 2, ⟨#[97]⟩, ⟨#[]⟩, ⟨#[]⟩, ⟨#[]⟩⟩ ⟨1, 1, 2, ⟨#[98]⟩, ⟨#[]⟩, ⟨#[]⟩, ⟨#[]⟩⟩ = true := by decide +kernel
theorem clash_4 : clashC ⟨2, 1, 2, ⟨#[98]⟩, ⟨#[]⟩, ⟨#[]⟩, ⟨#[]⟩⟩ ⟨5, 2, 2, ⟨#[97]⟩, ⟨#[99]⟩, ⟨#[]⟩, ⟨#[]⟩⟩ = true := by decide +kernel
set_option maxRecDepth 100000 in
set_option maxHeartbeats 8000000 in
theorem runs_any (w : World) :
    Calls Try.prog 3 #[] w fun e w' => e = .returned (.bool true) ∧ Below w.heap.size w w' := by
  have HO := hide law_of
  unfold valC at HO
  go_enter Try.func3, Try.ntmps3
  go_upto_region 2 with (first
    | (go_at_call 9; (with_reducible refine (HO.out 1 2 ⟨#[97]⟩ ⟨#[]⟩ w).mono ?_); rintro e w1 ⟨rfl, hb1⟩)
    | (go_at_call 9; (with_reducible refine (HO.out 2 1 ⟨#[97]⟩ ⟨#[]⟩ w1).mono ?_); rintro e w2 ⟨rfl, hb2⟩))
  have st : Tri w ((w2.alloc (.cells #[.int .i64 1, .int .i64 2, .int .i64 2, .string ⟨#[97]⟩, .string ⟨#[]⟩, .string ⟨#[]⟩, .string ⟨#[]⟩] 23)).alloc (.cells #[.int .i64 2, .int .i64 1, .int .i64 2, .string ⟨#[97]⟩, .string ⟨#[]⟩, .string ⟨#[]⟩, .string ⟨#[]⟩] 23)) w2.heap.size ⟨1, 2, 2, ⟨#[97]⟩, ⟨#[]⟩, ⟨#[]⟩, ⟨#[]⟩⟩ (w2.heap.size + 1) ⟨2, 1, 2, ⟨#[97]⟩, ⟨#[]⟩, ⟨#[]⟩, ⟨#[]⟩⟩ (w2.heap.size + 1) ⟨2, 1, 2, ⟨#[97]⟩, ⟨#[]⟩, ⟨#[]⟩, ⟨#[]⟩⟩ :=
    have z := Both.start w2 ⟨1, 2, 2, ⟨#[97]⟩, ⟨#[]⟩, ⟨#[]⟩, ⟨#[]⟩⟩ ⟨2, 1, 2, ⟨#[97]⟩, ⟨#[]⟩, ⟨#[]⟩, ⟨#[]⟩⟩ 23
    ⟨z.a, z.b, z.b, by simp; omega, by simp, by simp, (kept_trans hb1 hb2).trans (z.old.mono (kept_trans hb1 hb2).size)⟩
  generalize (w2.alloc (.cells #[.int .i64 1, .int .i64 2, .int .i64 2, .string ⟨#[97]⟩, .string ⟨#[]⟩, .string ⟨#[]⟩, .string ⟨#[]⟩] 23)).alloc (.cells #[.int .i64 2, .int .i64 1, .int .i64 2, .string ⟨#[97]⟩, .string ⟨#[]⟩, .string ⟨#[]⟩, .string ⟨#[]⟩] 23) = w3 at *
  generalize w2.heap.size = g at *
  obtain ⟨q0, q1, q2, q3, q4, q5, q6⟩ := st.a.cells
  obtain ⟨r0, r1, r2, r3, r4, r5, r6⟩ := st.b.cells
  simp only at q0 q1 q2 q3 q4 q5 q6 r0 r1 r2 r3 r4 r5 r6
  have K1 := hide clash_1
  have K2 := hide clash_2
  have K3 := hide clash_3
  have K4 := hide clash_4
  have sa := hide (show (⟨#[97]⟩ : ByteArray).size ≤ 140737488355328 by decide)
  have sb := hide (show (⟨#[98]⟩ : ByteArray).size ≤ 140737488355328 by decide)
  clear hb1 hb2
  go_cut [3] (fun s3 wx => s3 = .bool true ∧ Below w.heap.size w wx)
  case first =>
    go_region_held3 (fun w' => w'.cell? ⟨g, 0, none⟩ = some (.int .i64 1) ∧ w'.cell? ⟨g, 1, none⟩ = some (.int .i64 2) ∧ w'.cell? ⟨g, 2, none⟩ = some (.int .i64 2) ∧ w'.cell? ⟨g, 3, none⟩ = some (.string ⟨#[97]⟩) ∧ w'.cell? ⟨g, 4, none⟩ = some (.string ⟨#[]⟩) ∧ w'.cell? ⟨g, 5, none⟩ = some (.string ⟨#[]⟩) ∧ w'.cell? ⟨g, 6, none⟩ = some (.string ⟨#[]⟩) ∧ w'.cell? ⟨g + 1, 0, none⟩ = some (.int .i64 2) ∧ w'.cell? ⟨g + 1, 1, none⟩ = some (.int .i64 1) ∧ w'.cell? ⟨g + 1, 2, none⟩ = some (.int .i64 2) ∧ w'.cell? ⟨g + 1, 3, none⟩ = some (.string ⟨#[97]⟩) ∧ w'.cell? ⟨g + 1, 4, none⟩ = some (.string ⟨#[]⟩) ∧ w'.cell? ⟨g + 1, 5, none⟩ = some (.string ⟨#[]⟩) ∧ w'.cell? ⟨g + 1, 6, none⟩ = some (.string ⟨#[]⟩)) (go_keep)
      (first
        | (go_at_call 9; (with_reducible refine (Tri.call (W := w) (g1 := g) (x1 := ⟨1, 2, 2, ⟨#[97]⟩, ⟨#[]⟩, ⟨#[]⟩, ⟨#[]⟩⟩) (g2 := g + 1) (x2 := ⟨2, 1, 2, ⟨#[97]⟩, ⟨#[]⟩, ⟨#[]⟩, ⟨#[]⟩⟩) (g3 := g + 1) (x3 := ⟨2, 1, 2, ⟨#[97]⟩, ⟨#[]⟩, ⟨#[]⟩, ⟨#[]⟩⟩) (by first | with_reducible assumption | with_reducible exact Tri.drew (by with_reducible assumption)) (HO.out _ _ _ _ _)).mono ?_); rintro e w' ⟨rfl, ⟨q0, q1, q2, q3, q4, q5, q6⟩, ⟨r0, r1, r2, r3, r4, r5, r6⟩, _, st'⟩; simp only at q0 q1 q2 q3 q4 q5 q6 r0 r1 r2 r3 r4 r5 r6)
        | (go_at_call 10; (with_reducible refine (Tri.call (W := w) (g1 := g) (x1 := ⟨1, 2, 2, ⟨#[97]⟩, ⟨#[]⟩, ⟨#[]⟩, ⟨#[]⟩⟩) (g2 := g + 1) (x2 := ⟨2, 1, 2, ⟨#[97]⟩, ⟨#[]⟩, ⟨#[]⟩, ⟨#[]⟩⟩) (g3 := g + 1) (x3 := ⟨2, 1, 2, ⟨#[97]⟩, ⟨#[]⟩, ⟨#[]⟩, ⟨#[]⟩⟩) (by first | with_reducible assumption | with_reducible exact Tri.drew (by with_reducible assumption)) (clash_is _ K1.out sa.out sa.out)).mono ?_); rintro e w' ⟨rfl, ⟨q0, q1, q2, q3, q4, q5, q6⟩, ⟨r0, r1, r2, r3, r4, r5, r6⟩, _, st'⟩; simp only at q0 q1 q2 q3 q4 q5 q6 r0 r1 r2 r3 r4 r5 r6)
        | (go_at_call 10; (with_reducible refine (Tri.call (W := w) (g1 := g) (x1 := ⟨1, 2, 2, ⟨#[97]⟩, ⟨#[]⟩, ⟨#[]⟩, ⟨#[]⟩⟩) (g2 := g + 1) (x2 := ⟨2, 1, 2, ⟨#[97]⟩, ⟨#[]⟩, ⟨#[]⟩, ⟨#[]⟩⟩) (g3 := g + 1) (x3 := ⟨2, 1, 2, ⟨#[97]⟩, ⟨#[]⟩, ⟨#[]⟩, ⟨#[]⟩⟩) (by first | with_reducible assumption | with_reducible exact Tri.drew (by with_reducible assumption)) (clash_is _ K2.out sa.out sa.out)).mono ?_); rintro e w' ⟨rfl, ⟨q0, q1, q2, q3, q4, q5, q6⟩, ⟨r0, r1, r2, r3, r4, r5, r6⟩, _, st'⟩; simp only at q0 q1 q2 q3 q4 q5 q6 r0 r1 r2 r3 r4 r5 r6)
        | (go_at_call 10; (with_reducible refine (Tri.call (W := w) (g1 := g) (x1 := ⟨1, 2, 2, ⟨#[97]⟩, ⟨#[]⟩, ⟨#[]⟩, ⟨#[]⟩⟩) (g2 := g + 1) (x2 := ⟨2, 1, 2, ⟨#[97]⟩, ⟨#[]⟩, ⟨#[]⟩, ⟨#[]⟩⟩) (g3 := g + 1) (x3 := ⟨2, 1, 2, ⟨#[97]⟩, ⟨#[]⟩, ⟨#[]⟩, ⟨#[]⟩⟩) (by first | with_reducible assumption | with_reducible exact Tri.drew (by with_reducible assumption)) (clash_is _ K3.out sa.out sb.out)).mono ?_); rintro e w' ⟨rfl, ⟨q0, q1, q2, q3, q4, q5, q6⟩, ⟨r0, r1, r2, r3, r4, r5, r6⟩, _, st'⟩; simp only at q0 q1 q2 q3 q4 q5 q6 r0 r1 r2 r3 r4 r5 r6)
        | (go_at_call 10; (with_reducible refine (Tri.call (W := w) (g1 := g) (x1 := ⟨1, 2, 2, ⟨#[97]⟩, ⟨#[]⟩, ⟨#[]⟩, ⟨#[]⟩⟩) (g2 := g + 1) (x2 := ⟨2, 1, 2, ⟨#[97]⟩, ⟨#[]⟩, ⟨#[]⟩, ⟨#[]⟩⟩) (g3 := g + 1) (x3 := ⟨2, 1, 2, ⟨#[97]⟩, ⟨#[]⟩, ⟨#[]⟩, ⟨#[]⟩⟩) (by first | with_reducible assumption | with_reducible exact Tri.drew (by with_reducible assumption)) (clash_is _ K4.out sb.out sa.out)).mono ?_); rintro e w' ⟨rfl, ⟨q0, q1, q2, q3, q4, q5, q6⟩, ⟨r0, r1, r2, r3, r4, r5, r6⟩, _, st'⟩; simp only at q0 q1 q2 q3 q4 q5 q6 r0 r1 r2 r3 r4 r5 r6))
    all_goals go_wp2
    all_goals go_meet
    all_goals exact ⟨rfl, Tri.old (by with_reducible assumption)⟩
  case rest =>
    obtain ⟨rfl, old⟩ := hcut
    clear st q0 q1 q2 q3 q4 q5 q6 r0 r1 r2 r3 r4 r5 r6
    have f1 := hide (show (#[.int .u8 2, .int .u8 2, .int .u8 4, .int .u8 2, .int .u8 97] : Array Value) = (cellsOf [2, 2, 4, 2, 97]).toArray from rfl)
    have f2 := hide (show (#[.int .u8 0] : Array Value) = (cellsOf [0]).toArray from rfl)
    have l1' := hide (show ([2, 2, 4, 2, 97] : List Int).length = 5 from rfl)
    have l2' := hide (show ([0] : List Int).length = 1 from rfl)
    have P1 := hide pack_get
    have P2 := hide pack_zero
    have OLD := hide old
    clear old K1 K2 K3 K4 sa sb
    go_wp2_with (first
      | (go_at_call 9; (with_reducible refine (HO.out _ _ _ _ _).mono ?_); rintro e w4 ⟨rfl, k4⟩; have b4 := hide (OLD.out.trans (k4.mono OLD.out.size)); clear k4)
      | (go_at_call 12; (with_reducible refine (cput_nil (ys := [2, 2, 4, 2, 97]) (n := 5) w4 P1.out l1'.out).mono ?_); rintro e w5 ⟨A5, c5, rfl, _, l5, _, k5⟩; have l5 := hide l5; have b5 := hide (b4.out.trans (k5.mono b4.out.size)); clear k5)
      | (go_at_call 11; (with_reducible refine (same_lit (zs := [2, 2, 4, 2, 97]) (n := 5) l5.out l1'.out (by omega) f1.out).mono ?_); rintro e w6 ⟨rfl, k6⟩; have b6 := hide (b5.out.trans (k6.mono b5.out.size)); clear k6)
      | (go_at_call 12; (with_reducible refine (cput_nil (ys := [0]) (n := 1) w6 P2.out l2'.out).mono ?_); rintro e w7 ⟨A7, c7, rfl, _, l7, _, k7⟩; have l7 := hide l7; have b7 := hide (b6.out.trans (k7.mono b6.out.size)); clear k7)
      | (go_at_call 11; (with_reducible refine (same_lit (zs := [0]) (n := 1) l7.out l2'.out (by omega) f2.out).mono ?_); rintro e w8 ⟨rfl, k8⟩; have b8 := hide (b7.out.trans (k8.mono b7.out.size)); clear k8))
    go_ret
    exact ⟨rfl, b8.out⟩
end Go.Proofs.Ytigbplmfhnamkaa
