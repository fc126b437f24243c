/- Chapter 7's runs. No condition. -/
import Derived.Test.YtpngcocmjbkfgaaAt
import Derived.Test.YtpngcocmjbkfgaaSame8
import Derived.Test.YtpngcocmjbkfgaaMost
import Derived.Test.YtpngcocmjbkfgaaJoinc
import Derived.Test.YtpngcocmjbkfgaaReach
import Derived.Test.YtpngcocmjbkfgaaListc
import Derived.Test.YtpngcocmjbkfgaaCutr
import Derived.Deep.DeepCutAuto
namespace Go.Proofs.Ytpngcocmjbkfgaa
open Go.RowKit Go.Maps
theorem ok8_small {x : List Int} (h : x.length = 8) (hs : ∀ n, n ∈ x → 0 ≤ n ∧ n ≤ 100) : Ok8 x := ⟨h, fun n hn => by have := hs n hn; unfold I64; omega⟩
theorem most3 : mostA [[1, 0, 0, 0, 0, 0, 0, 0], [2, 1, 0, 0, 0, 0, 0, 0], [2, 1, 0, 0, 0, 0, 0, 0]] = ([2, 1, 0, 0, 0, 0, 0, 0], 2) := by decide
theorem list2 : listD [1, 2, 0, 0, 0, 0, 0] [0, 1, 0, 0, 0, 0, 0] = [[0, 1], [1, 2]] := by decide
theorem ok3 : ∀ x, x ∈ [[(1 : Int), 0, 0, 0, 0, 0, 0, 0], [2, 1, 0, 0, 0, 0, 0, 0], [2, 1, 0, 0, 0, 0, 0, 0]] → Ok8 x := fun x hx => by
  simp only [List.mem_cons, List.not_mem_nil, or_false] at hx
  rcases hx with rfl | rfl | rfl
  all_goals exact ok8_small rfl (fun n hn => by simp at hn; omega)
theorem all3 : All 8 [[(1 : Int), 0, 0, 0, 0, 0, 0, 0], [2, 1, 0, 0, 0, 0, 0, 0], [2, 1, 0, 0, 0, 0, 0, 0]] := fun x hx => (ok3 x hx).len
/-- The runs' variables, and that nothing of before has turned. -/
structure Rn1 (W w : World) (g1 : Nat) : Prop where
  low : Below W.heap.size W w
  d : Row w g1 23 #[.int .i64 0, .int .i64 4, .int .i64 0, .int .i64 0, .int .i64 0, .int .i64 0, .int .i64 0]
theorem Rn1.step {W w w' : World} {g1 : Nat} (h : Rn1 W w g1) (hb : Below w.heap.size w w') : Rn1 W w' g1 := ⟨kept_trans h.low hb, h.d.below hb h.d.lt⟩
structure Rn2 (W w : World) (g1 g2 : Nat) : Prop where
  o : Rn1 W w g1
  a : Row w g2 25 #[.int .i64 2, .int .i64 1, .int .i64 0, .int .i64 0, .int .i64 0, .int .i64 0, .int .i64 0, .int .i64 0]
theorem Rn2.step {W w w' : World} {g1 g2 : Nat} (h : Rn2 W w g1 g2) (hb : Below w.heap.size w w') : Rn2 W w' g1 g2 := ⟨h.o.step hb, h.a.below hb h.a.lt⟩
structure Rn (W w : World) (g1 g2 : Nat) (A : Option Addr) : Prop where
  t : Rn2 W w g1 g2
  i : Its 2 w A [[0, 1], [1, 2]]
theorem Rn.step {W w w' : World} {g1 g2 : Nat} {A : Option Addr} (h : Rn W w g1 g2 A) (hb : Below w.heap.size w w') : Rn W w' g1 g2 A := ⟨h.t.step hb, h.i.below hb⟩
theorem Rn.drew {W w : World} {g1 g2 : Nat} {A : Option Addr} (h : Rn W w g1 g2 A) : Rn W w.drew g1 g2 A := h.step (kept_drewN (kept_refl w) 1)
theorem Rn.low {W w : World} {g1 g2 : Nat} {A : Option Addr} (h : Rn W w g1 g2 A) : Below W.heap.size W w := h.t.o.low
theorem Rn.cells {W w : World} {g1 g2 : Nat} {A : Option Addr} (h : Rn W w g1 g2 A) :
    (w.cell? ⟨g1, 0, none⟩ = some (.int .i64 0) ∧ w.cell? ⟨g1, 1, none⟩ = some (.int .i64 4) ∧ w.cell? ⟨g1, 2, none⟩ = some (.int .i64 0) ∧ w.cell? ⟨g1, 3, none⟩ = some (.int .i64 0) ∧ w.cell? ⟨g1, 4, none⟩ = some (.int .i64 0) ∧ w.cell? ⟨g1, 5, none⟩ = some (.int .i64 0) ∧ w.cell? ⟨g1, 6, none⟩ = some (.int .i64 0)) ∧
    (w.cell? ⟨g2, 0, none⟩ = some (.int .i64 2) ∧ w.cell? ⟨g2, 1, none⟩ = some (.int .i64 1) ∧ w.cell? ⟨g2, 2, none⟩ = some (.int .i64 0) ∧ w.cell? ⟨g2, 3, none⟩ = some (.int .i64 0) ∧ w.cell? ⟨g2, 4, none⟩ = some (.int .i64 0) ∧ w.cell? ⟨g2, 5, none⟩ = some (.int .i64 0) ∧ w.cell? ⟨g2, 6, none⟩ = some (.int .i64 0) ∧ w.cell? ⟨g2, 7, none⟩ = some (.int .i64 0)) :=
  ⟨⟨h.t.o.d.cell 0, h.t.o.d.cell 1, h.t.o.d.cell 2, h.t.o.d.cell 3, h.t.o.d.cell 4, h.t.o.d.cell 5, h.t.o.d.cell 6⟩, ⟨h.t.a.cell 0, h.t.a.cell 1, h.t.a.cell 2, h.t.a.cell 3, h.t.a.cell 4, h.t.a.cell 5, h.t.a.cell 6, h.t.a.cell 7⟩⟩
theorem at2_rows {w : World} {l : List (Nat × TypeId × Array Value)} (h : Rows w l) (s x y : Int) (g : Nat) (hm : (g, 3, #[.int .i64 x, .int .i64 y]) ∈ l) : Calls Try.prog 10 #[.int .i64 s, .slice (some ⟨g, 0, none⟩) 2 2] w fun e w' =>
    e = .returned (.agg #[.int .i64 s, .int .i64 x, .int .i64 y, .int .i64 0, .int .i64 0, .int .i64 0, .int .i64 0, .int .i64 0]) ∧ Below w.heap.size w w' := at2_any s x y g w (h _ hm).lt ((h _ hm).cell 0) ((h _ hm).cell 1)
theorem at1_rows {w : World} {l : List (Nat × TypeId × Array Value)} (h : Rows w l) (s x : Int) (g : Nat) (hm : (g, 3, #[.int .i64 x]) ∈ l) : Calls Try.prog 10 #[.int .i64 s, .slice (some ⟨g, 0, none⟩) 1 1] w fun e w' =>
    e = .returned (.agg #[.int .i64 s, .int .i64 x, .int .i64 0, .int .i64 0, .int .i64 0, .int .i64 0, .int .i64 0, .int .i64 0]) ∧ Below w.heap.size w w' := at1_any s x g w (h _ hm).lt ((h _ hm).cell 0)
theorem join_runs {w : World} {l : List (Nat × TypeId × Array Value)} (h : Rows w l) (g : Nat) (hm : (g, 25, #[.int .i64 1, .int .i64 2, .int .i64 0, .int .i64 0, .int .i64 0, .int .i64 0, .int .i64 0, .int .i64 0, .int .i64 3, .int .i64 1, .int .i64 5, .int .i64 0, .int .i64 0, .int .i64 0, .int .i64 0, .int .i64 0]) ∈ l) :
    Calls Try.prog 13 #[.slice (some ⟨g, 0, none⟩) 2 2] w fun e w' => e = .returned (.agg #[.int .i64 3, .int .i64 2, .int .i64 5, .int .i64 0, .int .i64 0, .int .i64 0, .int .i64 0, .int .i64 0]) ∧ Below w.heap.size w w' :=
  (join_any _ 2 2 [[1, 2, 0, 0, 0, 0, 0, 0], [3, 1, 5, 0, 0, 0, 0, 0]] w rfl (All.cons_ rfl (All.cons_ rfl All.nil_)) (its_row (h _ hm) (All.cons_ rfl (All.cons_ rfl All.nil_)) rfl) (by omega) (by omega)).mono fun _ _ ⟨h1, h2⟩ => ⟨by rw [h1]; rfl, h2⟩
theorem reach_runs1 (w : World) : Calls Try.prog 14 #[.agg #[.int .i64 0, .int .i64 4, .int .i64 0, .int .i64 0, .int .i64 0, .int .i64 0, .int .i64 0], .agg #[.int .i64 1, .int .i64 4]] w fun e w' => e = .returned (.bool true) ∧ Below w.heap.size w w' :=
  (reach_any 0 4 0 0 0 0 0 1 4 w).mono fun _ _ ⟨h1, h2⟩ => ⟨by rw [h1]; rfl, h2⟩
theorem reach_runs2 (w : World) : Calls Try.prog 14 #[.agg #[.int .i64 0, .int .i64 4, .int .i64 0, .int .i64 0, .int .i64 0, .int .i64 0, .int .i64 0], .agg #[.int .i64 1, .int .i64 5]] w fun e w' => e = .returned (.bool false) ∧ Below w.heap.size w w' :=
  (reach_any 0 4 0 0 0 0 0 1 5 w).mono fun _ _ ⟨h1, h2⟩ => ⟨by rw [h1]; rfl, h2⟩
theorem same_runs {w : World} {l : List (Nat × TypeId × Array Value)} {A : Option Addr} {c : Nat} (hA : Its 2 w A [[0, 1], [1, 2]]) (h : Rows w l) (g : Nat) (hm : (g, 34, #[.int .i64 0, .int .i64 1, .int .i64 1, .int .i64 2]) ∈ l) :
    Calls Try.prog 15 #[.slice A 2 c, .slice (some ⟨g, 0, none⟩) 2 2] w fun e w' => e = .returned (.bool true) ∧ Below w.heap.size w w' :=
  (same_inst A _ 2 2 c 2 [[0, 1], [1, 2]] [[0, 1], [1, 2]] w rfl rfl (All.cons_ rfl (All.cons_ rfl All.nil_)) (All.cons_ rfl (All.cons_ rfl All.nil_)) hA (its_row (h _ hm) (All.cons_ rfl (All.cons_ rfl All.nil_)) rfl) (by omega) (by omega)).mono fun _ w' ⟨h1, q, h2⟩ => ⟨by rw [h1]; rfl, by rw [h2]; exact kept_drewN (kept_refl w) q⟩
theorem field_deps (x0 x1 x2 x3 x4 x5 x6 x7 : Int) (w : World) : (Instr.field 25 (.agg #[.int .i64 x0, .int .i64 x1, .int .i64 x2, .int .i64 x3, .int .i64 x4, .int .i64 x5, .int .i64 x6, .int .i64 x7]) 1).run Try.prog w = .ok (.agg #[.int .i64 x1, .int .i64 x2, .int .i64 x3, .int .i64 x4, .int .i64 x5, .int .i64 x6, .int .i64 x7]) w := by kernel_rfl
/-- Most of the runs' three. -/
theorem most_runs (w : World) : Calls Try.prog 11 #[.slice (some ⟨w.heap.size, 0, none⟩) 3 3] (w.alloc (.cells #[.int .i64 1, .int .i64 0, .int .i64 0, .int .i64 0, .int .i64 0, .int .i64 0, .int .i64 0, .int .i64 0, .int .i64 2, .int .i64 1, .int .i64 0, .int .i64 0, .int .i64 0, .int .i64 0, .int .i64 0, .int .i64 0, .int .i64 2, .int .i64 1, .int .i64 0, .int .i64 0, .int .i64 0, .int .i64 0, .int .i64 0, .int .i64 0] 25)) fun e w' =>
    e = .returned (.tuple #[.agg #[.int .i64 2, .int .i64 1, .int .i64 0, .int .i64 0, .int .i64 0, .int .i64 0, .int .i64 0, .int .i64 0], .int .i64 2]) ∧ Below w.heap.size w w' :=
  (most_any _ 3 3 _ _ rfl ok3 (its_row (Row.new w _ _) all3 rfl) (by omega) (by omega)).mono fun e w' ⟨h1, h2⟩ => ⟨by rw [h1, most3]; rfl, kept_trans (kept_alloc (kept_refl w) _) h2⟩
theorem list_runs (w : World) : Calls Try.prog 12 #[.agg #[.int .i64 1, .int .i64 2, .int .i64 0, .int .i64 0, .int .i64 0, .int .i64 0, .int .i64 0], .agg #[.int .i64 0, .int .i64 1, .int .i64 0, .int .i64 0, .int .i64 0, .int .i64 0, .int .i64 0]] w fun e w' =>
    ∃ A c, e = .returned (.slice A 2 c) ∧ Its 2 w' A [[0, 1], [1, 2]] ∧ Below w.heap.size w w' :=
  (list_any 1 2 0 0 0 0 0 0 1 0 0 0 0 0 w (fun n hn => by simp at hn; omega)).mono fun e w' ⟨A, c, h1, h2, h3⟩ => by
    rw [list2] at h1 h2
    exact ⟨A, c, h1, h2, h3⟩
set_option maxRecDepth 100000 in
set_option maxHeartbeats 8000000 in
theorem runs_any (w : World) : Calls Try.prog 3 #[] w fun e w' => e = .returned (.bool true) ∧ Below w.heap.size w w' := by
  have H := hide (kept_refl w)
  have hfd := field_deps
  have heq1 := fun w => eql_attr 3 2 5 0 0 0 0 0 3 2 5 0 0 0 0 0 w
  have heq2 := fun w => eql_attr 2 1 0 0 0 0 0 0 2 1 0 0 0 0 0 0 w
  simp only [decide_true] at heq1 heq2
  go_enter Try.func3, Try.ntmps3
  go_upto_region 1 with (fail)
  go_cut [1] (fun s1 wx => ∃ g1, s1 = .pointer (some ⟨g1, 0, none⟩) ∧ Rn1 w wx g1)
  case first =>
    go_wp2_with (go_at_call 10; (with_reducible refine (at2_here _ _ _ _).mono ?_); rintro e w' ⟨rfl, hb⟩; replace H : Hid (Below w.heap.size w w') := hide (kept_trans H.out hb); clear hb)
    go_meet
    exact ⟨_, rfl, kept_alloc H.out _, Row.new _ _ _⟩
  case rest =>
  obtain ⟨g1, rfl, hK⟩ := hcut
  have K := hide hK
  clear hK H
  go_upto_region 2 with (fail)
  go_cut [2, 3] (fun s2 s3 wx => ∃ g2, s2 = .pointer (some ⟨g2, 0, none⟩) ∧ s3 = .int .i64 2 ∧ Rn2 w wx g1 g2)
  case first =>
    go_wp2_with (first
      | (go_at_call 10; (with_reducible refine (at1_here _ _ _).mono ?_); rintro e w' ⟨rfl, hb⟩; replace K : Hid (Rn1 w w' g1) := hide (K.out.step hb); clear hb)
      | (go_at_call 11; (with_reducible refine (most_runs _).mono ?_); rintro e w' ⟨rfl, hb⟩; replace K : Hid (Rn1 w w' g1) := hide (K.out.step hb); clear hb))
    go_meet
    exact ⟨_, rfl, rfl, K.out.step (kept_alloc (kept_refl _) _), Row.new _ _ _⟩
  case rest =>
  obtain ⟨g2, rfl, rfl, hK⟩ := hcut
  clear K
  have K := hide hK
  clear hK
  go_upto_region 3 with (fail)
  go_cut [4] (fun s4 wx => ∃ A c, s4 = .slice A 2 c ∧ Rn w wx g1 g2 A)
  case first =>
    go_wp2_with (first
      | (go_at_call 10; (with_reducible refine (at2_here _ _ _ _).mono ?_); rintro e w' ⟨rfl, hb⟩; replace K : Hid (Rn2 w w' g1 g2) := hide (K.out.step hb); clear hb)
      | (go_at_call 12; (with_reducible refine (list_runs _).mono ?_); rintro e w' ⟨A, c, rfl, hI, hb⟩; replace K : Hid (Rn2 w w' g1 g2) := hide (K.out.step hb); have I := hide hI; clear hb hI))
    go_meet
    exact ⟨_, _, rfl, K.out, I.out⟩
  case rest =>
  obtain ⟨A, c, rfl, hK⟩ := hcut
  clear K
  have KR := hide (And.intro hK hK)
  clear hK hfd
  go_upto_region 4 with (fail)
  refine wp_region_noPanic ?_
  refine wp_region_held_drew (S := (fun w' => Rn w w' g1 g2 A)) (by kernel_rfl) KR.out.1.drew (fun hx => ?_)
  clear hx
  have KN := hide (And.intro KR.out.1.drew (Rows.none_ (w := wc.drew)))
  generalize World.drew wc = w0 at KN ⊢
  clear KR wc
  have K0 := KN
  clear KN
  refine wpAnyH_cut (n := 9) (k := 29) (L := #[true, true, true, true, true, true, true, true, true, false, false, false, false, false, false, false, false, false, false, false, false, false, false, false, false, false, false, false, false, false, false, false, false, false, false, false, false, false]) (R := (fun a W' => Rn w W' g1 g2 A ∧ ∃ v26 v28 v30 v32, a = { tmps := List.toArray ((.bool false) :: (.pointer (some ⟨g1, 0, none⟩)) :: (.pointer (some ⟨g2, 0, none⟩)) :: (.int .i64 2) :: (.slice A 2 c) :: (u5) :: (u6) :: (u7) :: (u8) :: (u9) :: (u10) :: (u11) :: (u12) :: (u13) :: (u14) :: (u15) :: (u16) :: (u17) :: (u18) :: (u19) :: (u20) :: (u21) :: (u22) :: (u23) :: (u24) :: (u25) :: (v26) :: (.agg #[.int .i64 1, .int .i64 2, .int .i64 0, .int .i64 0, .int .i64 0, .int .i64 0, .int .i64 0, .int .i64 0]) :: (v28) :: (.agg #[.int .i64 3, .int .i64 1, .int .i64 5, .int .i64 0, .int .i64 0, .int .i64 0, .int .i64 0, .int .i64 0]) :: (v30) :: (.agg #[.int .i64 3, .int .i64 2, .int .i64 5, .int .i64 0, .int .i64 0, .int .i64 0, .int .i64 0, .int .i64 0]) :: (v32) :: (.agg #[.int .i64 3, .int .i64 2, .int .i64 5, .int .i64 0, .int .i64 0, .int .i64 0, .int .i64 0, .int .i64 0]) :: (.bool true) :: (u35) :: (u36) :: (u37) :: (u38) :: (u39) :: (u40) :: (u41) :: (u42) :: (u43) :: (u44) :: (u45) :: (u46) :: (u47) :: (u48) :: (u49) :: (u50) :: (u51) :: (u52) :: (u53) :: (u54) :: (u55) :: (u56) :: (u57) :: (u58) :: (u59) :: (u60) :: (u61) :: (u62) :: []), defers := [] })) ?_ ?_
  · rintro _ w0 ⟨hR, v26, v28, v30, v32, rfl⟩
    have K0 := hide (And.intro hR (Rows.none_ (w := w0)))
    clear hR
    refine wpAnyH_take (i := 9) (v := ?hgv9) (by simp only [List.getElem?_toArray, List.getElem?_cons_succ, List.getElem?_cons_zero]; exact rfl) (by kernel_rfl) (by kernel_rfl) (by kernel_rfl) (fun _ _ _ h => h) (Or.inl ⟨by rfl, ?hgy9⟩) K0.out.1 ?hgr9
    case hgy9 => (intro wh hSw; replace hSw := Rn.cells hSw; go_simp; all_goals (with_reducible rfl))
    try simp only [Act.put, List.setIfInBounds_toArray, List.set_cons_zero, List.set_cons_succ]
    refine wpAnyH_take (i := 10) (v := ?hgv10) (by simp only [List.getElem?_toArray, List.getElem?_cons_succ, List.getElem?_cons_zero]; exact rfl) (by kernel_rfl) (by kernel_rfl) (by kernel_rfl) (fun _ _ _ h => h) (Or.inl ⟨by rfl, ?hgy10⟩) K0.out.1 ?hgr10
    case hgy10 => (intro wh hSw; replace hSw := Rn.cells hSw; go_simp; all_goals (with_reducible rfl))
    try simp only [Act.put, List.setIfInBounds_toArray, List.set_cons_zero, List.set_cons_succ]
    refine wpAnyH_take (i := 11) (v := ?hgv11) (by simp only [List.getElem?_toArray, List.getElem?_cons_succ, List.getElem?_cons_zero]; exact rfl) (by kernel_rfl) (by kernel_rfl) (by kernel_rfl) (fun _ _ _ h => h) (Or.inl ⟨by rfl, ?hgy11⟩) K0.out.1 ?hgr11
    case hgy11 => (intro wh hSw; replace hSw := Rn.cells hSw; go_simp; all_goals (with_reducible rfl))
    try simp only [Act.put, List.setIfInBounds_toArray, List.set_cons_zero, List.set_cons_succ]
    refine wpAnyH_ready (rs := [12]) (by kernel_rfl) (by simp) ?_
    refine AllReadyH.cons (by simp only [List.getElem?_toArray, List.getElem?_cons_succ, List.getElem?_cons_zero]; exact rfl) (fun K hK => ?_) AllReadyH.nil
    go_simp
    refine (reach_runs1 w0).mono ?_
    rintro e w1 ⟨rfl, hb⟩
    have K1 := hide (And.intro (K0.out.1.step hb) (K0.out.2.below hb))
    refine hK.out _ _ K1.out.1 (fun hx => ?_)
    clear hx
    clear hK K K0 hb
    try simp only [List.setIfInBounds_toArray, List.set_cons_zero, List.set_cons_succ]
    clear w0
    refine wpAnyH_take (i := 13) (v := ?hgv13) (by simp only [List.getElem?_toArray, List.getElem?_cons_succ, List.getElem?_cons_zero]; exact rfl) (by kernel_rfl) (by kernel_rfl) (by kernel_rfl) (fun _ _ _ h => h) (Or.inl ⟨by rfl, ?hgy13⟩) K1.out.1 ?hgr13
    case hgy13 => (intro wh hSw; replace hSw := Rn.cells hSw; go_simp; all_goals (with_reducible rfl))
    try simp only [Act.put, List.setIfInBounds_toArray, List.set_cons_zero, List.set_cons_succ]
    refine wpAnyH_take (i := 14) (v := ?hgv14) (by simp only [List.getElem?_toArray, List.getElem?_cons_succ, List.getElem?_cons_zero]; exact rfl) (by kernel_rfl) (by kernel_rfl) (by kernel_rfl) (fun _ _ _ h => h) (Or.inl ⟨by rfl, ?hgy14⟩) K1.out.1 ?hgr14
    case hgy14 => (intro wh hSw; replace hSw := Rn.cells hSw; go_simp; all_goals (with_reducible rfl))
    try simp only [Act.put, List.setIfInBounds_toArray, List.set_cons_zero, List.set_cons_succ]
    refine wpAnyH_take (i := 15) (v := ?hgv15) (by simp only [List.getElem?_toArray, List.getElem?_cons_succ, List.getElem?_cons_zero]; exact rfl) (by kernel_rfl) (by kernel_rfl) (by kernel_rfl) (fun _ _ _ h => h) (Or.inl ⟨by rfl, ?hgy15⟩) K1.out.1 ?hgr15
    case hgy15 => (intro wh hSw; replace hSw := Rn.cells hSw; go_simp; all_goals (with_reducible rfl))
    try simp only [Act.put, List.setIfInBounds_toArray, List.set_cons_zero, List.set_cons_succ]
    refine wpAnyH_take (i := 16) (v := ?hgv16) (by simp only [List.getElem?_toArray, List.getElem?_cons_succ, List.getElem?_cons_zero]; exact rfl) (by kernel_rfl) (by kernel_rfl) (by kernel_rfl) (fun _ _ _ h => h) (Or.inl ⟨by rfl, ?hgy16⟩) K1.out.1 ?hgr16
    case hgy16 => (intro wh hSw; replace hSw := Rn.cells hSw; go_simp; all_goals (with_reducible rfl))
    try simp only [Act.put, List.setIfInBounds_toArray, List.set_cons_zero, List.set_cons_succ]
    refine wpAnyH_ready (rs := [17]) (by kernel_rfl) (by simp) ?_
    refine AllReadyH.cons (by simp only [List.getElem?_toArray, List.getElem?_cons_succ, List.getElem?_cons_zero]; exact rfl) (fun K hK => ?_) AllReadyH.nil
    go_simp
    refine (reach_runs2 w1).mono ?_
    rintro e w2 ⟨rfl, hb⟩
    have K2 := hide (And.intro (K1.out.1.step hb) (K1.out.2.below hb))
    refine hK.out _ _ K2.out.1 (fun hx => ?_)
    clear hx
    clear hK K K1 hb
    try simp only [List.setIfInBounds_toArray, List.set_cons_zero, List.set_cons_succ]
    clear w1
    refine wpAnyH_take (i := 18) (v := ?hgv18) (by simp only [List.getElem?_toArray, List.getElem?_cons_succ, List.getElem?_cons_zero]; exact rfl) (by kernel_rfl) (by kernel_rfl) (by kernel_rfl) (fun _ _ _ h => h) (Or.inl ⟨by rfl, ?hgy18⟩) K2.out.1 ?hgr18
    case hgy18 => (intro wh hSw; replace hSw := Rn.cells hSw; go_simp; all_goals (with_reducible rfl))
    try simp only [Act.put, List.setIfInBounds_toArray, List.set_cons_zero, List.set_cons_succ]
    refine wpAnyH_take (i := 19) (v := ?hgv19) (by simp only [List.getElem?_toArray, List.getElem?_cons_succ, List.getElem?_cons_zero]; exact rfl) (by kernel_rfl) (by kernel_rfl) (by kernel_rfl) (fun _ _ _ h => h) (Or.inl ⟨by rfl, ?hgy19⟩) K2.out.1 ?hgr19
    case hgy19 => (intro wh hSw; replace hSw := Rn.cells hSw; go_simp; all_goals (with_reducible rfl))
    try simp only [Act.put, List.setIfInBounds_toArray, List.set_cons_zero, List.set_cons_succ]
    refine wpAnyH_take (i := 20) (v := ?hgv20) (by simp only [List.getElem?_toArray, List.getElem?_cons_succ, List.getElem?_cons_zero]; exact rfl) (by kernel_rfl) (by kernel_rfl) (by kernel_rfl) (fun _ _ _ h => h) (Or.inl ⟨by rfl, ?hgy20⟩) K2.out.1 ?hgr20
    case hgy20 => (intro wh hSw; replace hSw := Rn.cells hSw; go_simp; all_goals (with_reducible rfl))
    try simp only [Act.put, List.setIfInBounds_toArray, List.set_cons_zero, List.set_cons_succ]
    refine wpAnyH_take (i := 21) (v := ?hgv21) (by simp only [List.getElem?_toArray, List.getElem?_cons_succ, List.getElem?_cons_zero]; exact rfl) (by kernel_rfl) (by kernel_rfl) (by kernel_rfl) (fun _ _ _ h => h) (Or.inl ⟨by rfl, ?hgy21⟩) K2.out.1 ?hgr21
    case hgy21 => (intro wh hSw; replace hSw := Rn.cells hSw; go_simp; all_goals (with_reducible rfl))
    try simp only [Act.put, List.setIfInBounds_toArray, List.set_cons_zero, List.set_cons_succ]
    refine wpAnyH_ready (rs := [22]) (by kernel_rfl) (by simp) ?_
    refine AllReadyH.cons (by simp only [List.getElem?_toArray, List.getElem?_cons_succ, List.getElem?_cons_zero]; exact rfl) (fun K hK => ?_) AllReadyH.nil
    go_simp
    have K3 := hide (And.intro (K2.out.1.step (kept_alloc (kept_refl _) (.cells #[.int .i64 1] 3))) (K2.out.2.more 3 #[.int .i64 1]))
    refine hK.out _ _ K3.out.1 (fun hx => ?_)
    clear hx
    clear hK K K2
    try simp only [List.setIfInBounds_toArray, List.set_cons_zero, List.set_cons_succ]
    generalize World.alloc w2 _ = w3 at K3 ⊢
    generalize w2.heap.size = g22 at K3 ⊢
    clear w2
    refine wpAnyH_ready (rs := [23]) (by kernel_rfl) (by simp) ?_
    refine AllReadyH.cons (by simp only [List.getElem?_toArray, List.getElem?_cons_succ, List.getElem?_cons_zero]; exact rfl) (fun K hK => ?_) AllReadyH.nil
    go_simp
    refine (at1_rows K3.out.2 2 1 g22 (by simp)).mono ?_
    rintro e w4 ⟨rfl, hb⟩
    have K4 := hide (And.intro (K3.out.1.step hb) (K3.out.2.below hb))
    refine hK.out _ _ K4.out.1 (fun hx => ?_)
    clear hx
    clear hK K K3 hb
    try simp only [List.setIfInBounds_toArray, List.set_cons_zero, List.set_cons_succ]
    clear w3
    refine wpAnyH_take (i := 24) (v := ?hgv24) (by simp only [List.getElem?_toArray, List.getElem?_cons_succ, List.getElem?_cons_zero]; exact rfl) (by kernel_rfl) (by kernel_rfl) (by kernel_rfl) (fun _ _ _ h => h) (Or.inl ⟨by rfl, ?hgy24⟩) K4.out.1 ?hgr24
    case hgy24 => (intro wh hSw; replace hSw := Rn.cells hSw; go_simp; all_goals (with_reducible rfl))
    try simp only [Act.put, List.setIfInBounds_toArray, List.set_cons_zero, List.set_cons_succ]
    refine wpAnyH_take (i := 25) (v := ?hgv25) (by simp only [List.getElem?_toArray, List.getElem?_cons_succ, List.getElem?_cons_zero]; exact rfl) (by kernel_rfl) (by kernel_rfl) (by kernel_rfl) (fun _ _ _ h => h) (Or.inl ⟨by rfl, ?hgy25⟩) K4.out.1 ?hgr25
    case hgy25 => (intro wh hSw; replace hSw := Rn.cells hSw; go_simp; all_goals (with_reducible rfl))
    try simp only [Act.put, List.setIfInBounds_toArray, List.set_cons_zero, List.set_cons_succ]
    refine wpAnyH_take (i := 26) (v := ?hgv26) (by simp only [List.getElem?_toArray, List.getElem?_cons_succ, List.getElem?_cons_zero]; exact rfl) (by kernel_rfl) (by kernel_rfl) (by kernel_rfl) (fun _ _ _ h => h) (Or.inl ⟨by rfl, ?hgy26⟩) K4.out.1 ?hgr26
    case hgy26 => (intro wh hSw; replace hSw := Rn.cells hSw; go_simp; all_goals (with_reducible rfl))
    try simp only [Act.put, List.setIfInBounds_toArray, List.set_cons_zero, List.set_cons_succ]
    refine wpAnyH_take (i := 27) (v := ?hgv27) (by simp only [List.getElem?_toArray, List.getElem?_cons_succ, List.getElem?_cons_zero]; exact rfl) (by kernel_rfl) (by kernel_rfl) (by kernel_rfl) (fun _ _ _ h => h) (Or.inl ⟨by rfl, ?hgy27⟩) K4.out.1 ?hgr27
    case hgy27 => (intro wh hSw; replace hSw := Rn.cells hSw; go_simp; all_goals (with_reducible rfl))
    try simp only [Act.put, List.setIfInBounds_toArray, List.set_cons_zero, List.set_cons_succ]
    refine wpAnyH_take (i := 28) (v := ?hgv28) (by simp only [List.getElem?_toArray, List.getElem?_cons_succ, List.getElem?_cons_zero]; exact rfl) (by kernel_rfl) (by kernel_rfl) (by kernel_rfl) (fun _ _ _ h => h) (Or.inl ⟨by rfl, ?hgy28⟩) K4.out.1 ?hgr28
    case hgy28 => (intro wh hSw; replace hSw := Rn.cells hSw; go_simp; all_goals (with_reducible rfl))
    try simp only [Act.put, List.setIfInBounds_toArray, List.set_cons_zero, List.set_cons_succ]
    refine wpAnyH_take (i := 29) (v := ?hgv29) (by simp only [List.getElem?_toArray, List.getElem?_cons_succ, List.getElem?_cons_zero]; exact rfl) (by kernel_rfl) (by kernel_rfl) (by kernel_rfl) (fun _ _ _ h => h) (Or.inl ⟨by rfl, ?hgy29⟩) K4.out.1 ?hgr29
    case hgy29 => (intro wh hSw; replace hSw := Rn.cells hSw; go_simp; all_goals (with_reducible rfl))
    try simp only [Act.put, List.setIfInBounds_toArray, List.set_cons_zero, List.set_cons_succ]
    refine wpAnyH_take (i := 30) (v := ?hgv30) (by simp only [List.getElem?_toArray, List.getElem?_cons_succ, List.getElem?_cons_zero]; exact rfl) (by kernel_rfl) (by kernel_rfl) (by kernel_rfl) (fun _ _ _ h => h) (Or.inl ⟨by rfl, ?hgy30⟩) K4.out.1 ?hgr30
    case hgy30 => (intro wh hSw; replace hSw := Rn.cells hSw; go_simp; all_goals (with_reducible rfl))
    try simp only [Act.put, List.setIfInBounds_toArray, List.set_cons_zero, List.set_cons_succ]
    refine wpAnyH_take (i := 31) (v := ?hgv31) (by simp only [List.getElem?_toArray, List.getElem?_cons_succ, List.getElem?_cons_zero]; exact rfl) (by kernel_rfl) (by kernel_rfl) (by kernel_rfl) (fun _ _ _ h => h) (Or.inl ⟨by rfl, ?hgy31⟩) K4.out.1 ?hgr31
    case hgy31 => (intro wh hSw; replace hSw := Rn.cells hSw; go_simp; all_goals (with_reducible rfl))
    try simp only [Act.put, List.setIfInBounds_toArray, List.set_cons_zero, List.set_cons_succ]
    refine wpAnyH_take (i := 32) (v := ?hgv32) (by simp only [List.getElem?_toArray, List.getElem?_cons_succ, List.getElem?_cons_zero]; exact rfl) (by kernel_rfl) (by kernel_rfl) (by kernel_rfl) (fun _ _ _ h => h) (Or.inl ⟨by rfl, ?hgy32⟩) K4.out.1 ?hgr32
    case hgy32 => (intro wh hSw; replace hSw := Rn.cells hSw; go_simp; all_goals (with_reducible rfl))
    try simp only [Act.put, List.setIfInBounds_toArray, List.set_cons_zero, List.set_cons_succ]
    refine wpAnyH_take (i := 33) (v := ?hgv33) (by simp only [List.getElem?_toArray, List.getElem?_cons_succ, List.getElem?_cons_zero]; exact rfl) (by kernel_rfl) (by kernel_rfl) (by kernel_rfl) (fun _ _ _ h => h) (Or.inl ⟨by rfl, ?hgy33⟩) K4.out.1 ?hgr33
    case hgy33 => (intro wh hSw; replace hSw := Rn.cells hSw; go_simp; all_goals (with_reducible rfl))
    try simp only [Act.put, List.setIfInBounds_toArray, List.set_cons_zero, List.set_cons_succ]
    refine wpAnyH_ready (rs := [34]) (by kernel_rfl) (by simp) ?_
    refine AllReadyH.cons (by simp only [List.getElem?_toArray, List.getElem?_cons_succ, List.getElem?_cons_zero]; exact rfl) (fun K hK => ?_) AllReadyH.nil
    go_simp
    have K5 := hide (And.intro (K4.out.1.step (kept_alloc (kept_refl _) (.cells #[.int .i64 0, .int .i64 1, .int .i64 1, .int .i64 2] 34))) (K4.out.2.more 34 #[.int .i64 0, .int .i64 1, .int .i64 1, .int .i64 2]))
    refine hK.out _ _ K5.out.1 (fun hx => ?_)
    clear hx
    clear hK K K4
    try simp only [List.setIfInBounds_toArray, List.set_cons_zero, List.set_cons_succ]
    generalize World.alloc w4 _ = w5 at K5 ⊢
    generalize w4.heap.size = g34 at K5 ⊢
    clear w4
    refine wpAnyH_ready (rs := [35]) (by kernel_rfl) (by simp) ?_
    refine AllReadyH.cons (by simp only [List.getElem?_toArray, List.getElem?_cons_succ, List.getElem?_cons_zero]; exact rfl) (fun K hK => ?_) AllReadyH.nil
    go_simp
    refine (same_runs K5.out.1.i K5.out.2 g34 (by simp)).mono ?_
    rintro e w6 ⟨rfl, hb⟩
    have K6 := hide (And.intro (K5.out.1.step hb) (K5.out.2.below hb))
    refine hK.out _ _ K6.out.1 (fun hx => ?_)
    clear hx
    clear hK K K5 hb
    try simp only [List.setIfInBounds_toArray, List.set_cons_zero, List.set_cons_succ]
    clear w5
    refine wpAnyH_take (i := 36) (v := ?hgv36) (by simp only [List.getElem?_toArray, List.getElem?_cons_succ, List.getElem?_cons_zero]; exact rfl) (by kernel_rfl) (by kernel_rfl) (by kernel_rfl) (fun _ _ _ h => h) (Or.inl ⟨by rfl, ?hgy36⟩) K6.out.1 ?hgr36
    case hgy36 => (intro wh hSw; replace hSw := Rn.cells hSw; go_simp; all_goals (with_reducible rfl))
    try simp only [Act.put, List.setIfInBounds_toArray, List.set_cons_zero, List.set_cons_succ]
    refine wpAnyH_take (i := 37) (v := ?hgv37) (by simp only [List.getElem?_toArray, List.getElem?_cons_succ, List.getElem?_cons_zero]; exact rfl) (by kernel_rfl) (by kernel_rfl) (by kernel_rfl) (fun _ _ _ h => h) (Or.inl ⟨by rfl, ?hgy37⟩) K6.out.1 ?hgr37
    case hgy37 => (intro wh hSw; replace hSw := Rn.cells hSw; go_simp; all_goals (with_reducible rfl))
    try simp only [Act.put, List.setIfInBounds_toArray, List.set_cons_zero, List.set_cons_succ]
    refine wpAnyH_done (by kernel_rfl) ?_ _
    refine NoPanic.normal ?_
    have LW := hide K6.out.1.low
    clear K6
    go_wp2
    go_ret
    exact ⟨rfl, LW.out⟩
  · refine anyC_ready (rs := [0, 2, 6]) (by kernel_rfl) (by simp) ?_
    refine AllC.cons (by simp only [List.getElem?_toArray, List.getElem?_cons_zero]; exact rfl) (fun K hK => ?_) ?_
    · go_simp
      have K1 := hide (And.intro (K0.out.1.step (kept_alloc (kept_refl _) (.cells #[.int .i64 2, .int .i64 0] 3))) (K0.out.2.more 3 #[.int .i64 2, .int .i64 0]))
      refine hK.out _ _ K1.out.1 ?_
      clear hK K K0
      generalize World.alloc w0 _ = w1 at K1 ⊢
      generalize w0.heap.size = g0 at K1 ⊢
      clear w0
      refine anyC_ready (rs := [1, 2, 6]) (by kernel_rfl) (by simp) ?_
      refine AllC.cons (by simp only [List.getElem?_toArray, List.getElem?_cons_succ, List.getElem?_cons_zero]; exact rfl) (fun K hK => ?_) ?_
      · go_simp
        refine (at2_rows K1.out.2 1 2 0 g0 (by simp)).mono ?_
        rintro e w2 ⟨rfl, hb⟩
        have K2 := hide (And.intro (K1.out.1.step hb) (K1.out.2.below hb))
        refine hK.out _ _ K2.out.1 ?_
        clear hK K K1 hb
        clear w1
        refine anyC_ready (rs := [2, 6]) (by kernel_rfl) (by simp) ?_
        refine AllC.cons (by simp only [List.getElem?_toArray, List.getElem?_cons_succ, List.getElem?_cons_zero]; exact rfl) (fun K hK => ?_) ?_
        · go_simp
          have K3 := hide (And.intro (K2.out.1.step (kept_alloc (kept_refl _) (.cells #[.int .i64 1, .int .i64 5] 3))) (K2.out.2.more 3 #[.int .i64 1, .int .i64 5]))
          refine hK.out _ _ K3.out.1 ?_
          clear hK K K2
          generalize World.alloc w2 _ = w3 at K3 ⊢
          generalize w2.heap.size = g2x at K3 ⊢
          clear w2
          refine anyC_ready (rs := [3, 6]) (by kernel_rfl) (by simp) ?_
          refine AllC.cons (by simp only [List.getElem?_toArray, List.getElem?_cons_succ, List.getElem?_cons_zero]; exact rfl) (fun K hK => ?_) ?_
          · go_simp
            refine (at2_rows K3.out.2 3 1 5 g2x (by simp)).mono ?_
            rintro e w4 ⟨rfl, hb⟩
            have K4 := hide (And.intro (K3.out.1.step hb) (K3.out.2.below hb))
            refine hK.out _ _ K4.out.1 ?_
            clear hK K K3 hb
            clear w3
            refine anyC_ready (rs := [4, 6]) (by kernel_rfl) (by simp) ?_
            refine AllC.cons (by simp only [List.getElem?_toArray, List.getElem?_cons_succ, List.getElem?_cons_zero]; exact rfl) (fun K hK => ?_) ?_
            · go_simp
              have K5 := hide (And.intro (K4.out.1.step (kept_alloc (kept_refl _) (.cells #[.int .i64 1, .int .i64 2, .int .i64 0, .int .i64 0, .int .i64 0, .int .i64 0, .int .i64 0, .int .i64 0, .int .i64 3, .int .i64 1, .int .i64 5, .int .i64 0, .int .i64 0, .int .i64 0, .int .i64 0, .int .i64 0] 25))) (K4.out.2.more 25 #[.int .i64 1, .int .i64 2, .int .i64 0, .int .i64 0, .int .i64 0, .int .i64 0, .int .i64 0, .int .i64 0, .int .i64 3, .int .i64 1, .int .i64 5, .int .i64 0, .int .i64 0, .int .i64 0, .int .i64 0, .int .i64 0]))
              refine hK.out _ _ K5.out.1 ?_
              clear hK K K4
              generalize World.alloc w4 _ = w5 at K5 ⊢
              generalize w4.heap.size = g4 at K5 ⊢
              clear w4
              refine anyC_ready (rs := [5, 6]) (by kernel_rfl) (by simp) ?_
              refine AllC.cons (by simp only [List.getElem?_toArray, List.getElem?_cons_succ, List.getElem?_cons_zero]; exact rfl) (fun K hK => ?_) ?_
              · go_simp
                refine (join_runs K5.out.2 g4 (by simp)).mono ?_
                rintro e w6 ⟨rfl, hb⟩
                have K6 := hide (And.intro (K5.out.1.step hb) (K5.out.2.below hb))
                refine hK.out _ _ K6.out.1 ?_
                clear hK K K5 hb
                clear w5
                refine anyC_ready (rs := [6]) (by kernel_rfl) (by simp) ?_
                refine AllC.cons (by simp only [List.getElem?_toArray, List.getElem?_cons_succ, List.getElem?_cons_zero]; exact rfl) (fun K hK => ?_) AllC.nil
                go_simp
                have K7 := hide (And.intro (K6.out.1.step (kept_alloc (kept_refl _) (.cells #[.int .i64 2, .int .i64 5] 3))) (K6.out.2.more 3 #[.int .i64 2, .int .i64 5]))
                refine hK.out _ _ K7.out.1 ?_
                clear hK K K6
                generalize World.alloc w6 _ = w7 at K7 ⊢
                generalize w6.heap.size = g6 at K7 ⊢
                clear w6
                refine anyC_ready (rs := [7]) (by kernel_rfl) (by simp) ?_
                refine AllC.cons (by simp only [List.getElem?_toArray, List.getElem?_cons_succ, List.getElem?_cons_zero]; exact rfl) (fun K hK => ?_) AllC.nil
                go_simp
                refine (at2_rows K7.out.2 3 2 5 g6 (by simp)).mono ?_
                rintro e w8 ⟨rfl, hb⟩
                have K8 := hide (And.intro (K7.out.1.step hb) (K7.out.2.below hb))
                refine hK.out _ _ K8.out.1 ?_
                clear hK K K7 hb
                clear w7
                refine anyC_ready (rs := [8]) (by kernel_rfl) (by simp) ?_
                refine AllC.cons (by simp only [List.getElem?_toArray, List.getElem?_cons_succ, List.getElem?_cons_zero]; exact rfl) (fun K hK => ?_) AllC.nil
                go_simp
                refine hK.out _ _ K8.out.1 ?_
                clear hK K
                exact anyC_done (by kernel_rfl) ⟨K8.out.1, _, _, _, _, rfl⟩
              refine AllC.cons (by simp only [List.getElem?_toArray, List.getElem?_cons_succ, List.getElem?_cons_zero]; exact rfl) (fun K hK => ?_) AllC.nil
              go_simp
              have K6 := hide (And.intro (K5.out.1.step (kept_alloc (kept_refl _) (.cells #[.int .i64 2, .int .i64 5] 3))) (K5.out.2.more 3 #[.int .i64 2, .int .i64 5]))
              refine hK.out _ _ K6.out.1 ?_
              clear hK K K5
              generalize World.alloc w5 _ = w6 at K6 ⊢
              generalize w5.heap.size = g6 at K6 ⊢
              clear w5
              refine anyC_ready (rs := [5]) (by kernel_rfl) (by simp) ?_
              refine AllC.cons (by simp only [List.getElem?_toArray, List.getElem?_cons_succ, List.getElem?_cons_zero]; exact rfl) (fun K hK => ?_) AllC.nil
              go_simp
              refine (join_runs K6.out.2 g4 (by simp)).mono ?_
              rintro e w7 ⟨rfl, hb⟩
              have K7 := hide (And.intro (K6.out.1.step hb) (K6.out.2.below hb))
              refine hK.out _ _ K7.out.1 ?_
              clear hK K K6 hb
              clear w6
              refine anyC_ready (rs := [7]) (by kernel_rfl) (by simp) ?_
              refine AllC.cons (by simp only [List.getElem?_toArray, List.getElem?_cons_succ, List.getElem?_cons_zero]; exact rfl) (fun K hK => ?_) AllC.nil
              go_simp
              refine (at2_rows K7.out.2 3 2 5 g6 (by simp)).mono ?_
              rintro e w8 ⟨rfl, hb⟩
              have K8 := hide (And.intro (K7.out.1.step hb) (K7.out.2.below hb))
              refine hK.out _ _ K8.out.1 ?_
              clear hK K K7 hb
              clear w7
              refine anyC_ready (rs := [8]) (by kernel_rfl) (by simp) ?_
              refine AllC.cons (by simp only [List.getElem?_toArray, List.getElem?_cons_succ, List.getElem?_cons_zero]; exact rfl) (fun K hK => ?_) AllC.nil
              go_simp
              refine hK.out _ _ K8.out.1 ?_
              clear hK K
              exact anyC_done (by kernel_rfl) ⟨K8.out.1, _, _, _, _, rfl⟩
            refine AllC.cons (by simp only [List.getElem?_toArray, List.getElem?_cons_succ, List.getElem?_cons_zero]; exact rfl) (fun K hK => ?_) AllC.nil
            go_simp
            have K5 := hide (And.intro (K4.out.1.step (kept_alloc (kept_refl _) (.cells #[.int .i64 2, .int .i64 5] 3))) (K4.out.2.more 3 #[.int .i64 2, .int .i64 5]))
            refine hK.out _ _ K5.out.1 ?_
            clear hK K K4
            generalize World.alloc w4 _ = w5 at K5 ⊢
            generalize w4.heap.size = g6 at K5 ⊢
            clear w4
            refine anyC_ready (rs := [4]) (by kernel_rfl) (by simp) ?_
            refine AllC.cons (by simp only [List.getElem?_toArray, List.getElem?_cons_succ, List.getElem?_cons_zero]; exact rfl) (fun K hK => ?_) AllC.nil
            go_simp
            have K6 := hide (And.intro (K5.out.1.step (kept_alloc (kept_refl _) (.cells #[.int .i64 1, .int .i64 2, .int .i64 0, .int .i64 0, .int .i64 0, .int .i64 0, .int .i64 0, .int .i64 0, .int .i64 3, .int .i64 1, .int .i64 5, .int .i64 0, .int .i64 0, .int .i64 0, .int .i64 0, .int .i64 0] 25))) (K5.out.2.more 25 #[.int .i64 1, .int .i64 2, .int .i64 0, .int .i64 0, .int .i64 0, .int .i64 0, .int .i64 0, .int .i64 0, .int .i64 3, .int .i64 1, .int .i64 5, .int .i64 0, .int .i64 0, .int .i64 0, .int .i64 0, .int .i64 0]))
            refine hK.out _ _ K6.out.1 ?_
            clear hK K K5
            generalize World.alloc w5 _ = w6 at K6 ⊢
            generalize w5.heap.size = g4 at K6 ⊢
            clear w5
            refine anyC_ready (rs := [5]) (by kernel_rfl) (by simp) ?_
            refine AllC.cons (by simp only [List.getElem?_toArray, List.getElem?_cons_succ, List.getElem?_cons_zero]; exact rfl) (fun K hK => ?_) AllC.nil
            go_simp
            refine (join_runs K6.out.2 g4 (by simp)).mono ?_
            rintro e w7 ⟨rfl, hb⟩
            have K7 := hide (And.intro (K6.out.1.step hb) (K6.out.2.below hb))
            refine hK.out _ _ K7.out.1 ?_
            clear hK K K6 hb
            clear w6
            refine anyC_ready (rs := [7]) (by kernel_rfl) (by simp) ?_
            refine AllC.cons (by simp only [List.getElem?_toArray, List.getElem?_cons_succ, List.getElem?_cons_zero]; exact rfl) (fun K hK => ?_) AllC.nil
            go_simp
            refine (at2_rows K7.out.2 3 2 5 g6 (by simp)).mono ?_
            rintro e w8 ⟨rfl, hb⟩
            have K8 := hide (And.intro (K7.out.1.step hb) (K7.out.2.below hb))
            refine hK.out _ _ K8.out.1 ?_
            clear hK K K7 hb
            clear w7
            refine anyC_ready (rs := [8]) (by kernel_rfl) (by simp) ?_
            refine AllC.cons (by simp only [List.getElem?_toArray, List.getElem?_cons_succ, List.getElem?_cons_zero]; exact rfl) (fun K hK => ?_) AllC.nil
            go_simp
            refine hK.out _ _ K8.out.1 ?_
            clear hK K
            exact anyC_done (by kernel_rfl) ⟨K8.out.1, _, _, _, _, rfl⟩
          refine AllC.cons (by simp only [List.getElem?_toArray, List.getElem?_cons_succ, List.getElem?_cons_zero]; exact rfl) (fun K hK => ?_) AllC.nil
          go_simp
          have K4 := hide (And.intro (K3.out.1.step (kept_alloc (kept_refl _) (.cells #[.int .i64 2, .int .i64 5] 3))) (K3.out.2.more 3 #[.int .i64 2, .int .i64 5]))
          refine hK.out _ _ K4.out.1 ?_
          clear hK K K3
          generalize World.alloc w3 _ = w4 at K4 ⊢
          generalize w3.heap.size = g6 at K4 ⊢
          clear w3
          refine anyC_ready (rs := [3]) (by kernel_rfl) (by simp) ?_
          refine AllC.cons (by simp only [List.getElem?_toArray, List.getElem?_cons_succ, List.getElem?_cons_zero]; exact rfl) (fun K hK => ?_) AllC.nil
          go_simp
          refine (at2_rows K4.out.2 3 1 5 g2x (by simp)).mono ?_
          rintro e w5 ⟨rfl, hb⟩
          have K5 := hide (And.intro (K4.out.1.step hb) (K4.out.2.below hb))
          refine hK.out _ _ K5.out.1 ?_
          clear hK K K4 hb
          clear w4
          refine anyC_ready (rs := [4]) (by kernel_rfl) (by simp) ?_
          refine AllC.cons (by simp only [List.getElem?_toArray, List.getElem?_cons_succ, List.getElem?_cons_zero]; exact rfl) (fun K hK => ?_) AllC.nil
          go_simp
          have K6 := hide (And.intro (K5.out.1.step (kept_alloc (kept_refl _) (.cells #[.int .i64 1, .int .i64 2, .int .i64 0, .int .i64 0, .int .i64 0, .int .i64 0, .int .i64 0, .int .i64 0, .int .i64 3, .int .i64 1, .int .i64 5, .int .i64 0, .int .i64 0, .int .i64 0, .int .i64 0, .int .i64 0] 25))) (K5.out.2.more 25 #[.int .i64 1, .int .i64 2, .int .i64 0, .int .i64 0, .int .i64 0, .int .i64 0, .int .i64 0, .int .i64 0, .int .i64 3, .int .i64 1, .int .i64 5, .int .i64 0, .int .i64 0, .int .i64 0, .int .i64 0, .int .i64 0]))
          refine hK.out _ _ K6.out.1 ?_
          clear hK K K5
          generalize World.alloc w5 _ = w6 at K6 ⊢
          generalize w5.heap.size = g4 at K6 ⊢
          clear w5
          refine anyC_ready (rs := [5]) (by kernel_rfl) (by simp) ?_
          refine AllC.cons (by simp only [List.getElem?_toArray, List.getElem?_cons_succ, List.getElem?_cons_zero]; exact rfl) (fun K hK => ?_) AllC.nil
          go_simp
          refine (join_runs K6.out.2 g4 (by simp)).mono ?_
          rintro e w7 ⟨rfl, hb⟩
          have K7 := hide (And.intro (K6.out.1.step hb) (K6.out.2.below hb))
          refine hK.out _ _ K7.out.1 ?_
          clear hK K K6 hb
          clear w6
          refine anyC_ready (rs := [7]) (by kernel_rfl) (by simp) ?_
          refine AllC.cons (by simp only [List.getElem?_toArray, List.getElem?_cons_succ, List.getElem?_cons_zero]; exact rfl) (fun K hK => ?_) AllC.nil
          go_simp
          refine (at2_rows K7.out.2 3 2 5 g6 (by simp)).mono ?_
          rintro e w8 ⟨rfl, hb⟩
          have K8 := hide (And.intro (K7.out.1.step hb) (K7.out.2.below hb))
          refine hK.out _ _ K8.out.1 ?_
          clear hK K K7 hb
          clear w7
          refine anyC_ready (rs := [8]) (by kernel_rfl) (by simp) ?_
          refine AllC.cons (by simp only [List.getElem?_toArray, List.getElem?_cons_succ, List.getElem?_cons_zero]; exact rfl) (fun K hK => ?_) AllC.nil
          go_simp
          refine hK.out _ _ K8.out.1 ?_
          clear hK K
          exact anyC_done (by kernel_rfl) ⟨K8.out.1, _, _, _, _, rfl⟩
        refine AllC.cons (by simp only [List.getElem?_toArray, List.getElem?_cons_succ, List.getElem?_cons_zero]; exact rfl) (fun K hK => ?_) AllC.nil
        go_simp
        have K3 := hide (And.intro (K2.out.1.step (kept_alloc (kept_refl _) (.cells #[.int .i64 2, .int .i64 5] 3))) (K2.out.2.more 3 #[.int .i64 2, .int .i64 5]))
        refine hK.out _ _ K3.out.1 ?_
        clear hK K K2
        generalize World.alloc w2 _ = w3 at K3 ⊢
        generalize w2.heap.size = g6 at K3 ⊢
        clear w2
        refine anyC_ready (rs := [2]) (by kernel_rfl) (by simp) ?_
        refine AllC.cons (by simp only [List.getElem?_toArray, List.getElem?_cons_succ, List.getElem?_cons_zero]; exact rfl) (fun K hK => ?_) AllC.nil
        go_simp
        have K4 := hide (And.intro (K3.out.1.step (kept_alloc (kept_refl _) (.cells #[.int .i64 1, .int .i64 5] 3))) (K3.out.2.more 3 #[.int .i64 1, .int .i64 5]))
        refine hK.out _ _ K4.out.1 ?_
        clear hK K K3
        generalize World.alloc w3 _ = w4 at K4 ⊢
        generalize w3.heap.size = g2x at K4 ⊢
        clear w3
        refine anyC_ready (rs := [3]) (by kernel_rfl) (by simp) ?_
        refine AllC.cons (by simp only [List.getElem?_toArray, List.getElem?_cons_succ, List.getElem?_cons_zero]; exact rfl) (fun K hK => ?_) AllC.nil
        go_simp
        refine (at2_rows K4.out.2 3 1 5 g2x (by simp)).mono ?_
        rintro e w5 ⟨rfl, hb⟩
        have K5 := hide (And.intro (K4.out.1.step hb) (K4.out.2.below hb))
        refine hK.out _ _ K5.out.1 ?_
        clear hK K K4 hb
        clear w4
        refine anyC_ready (rs := [4]) (by kernel_rfl) (by simp) ?_
        refine AllC.cons (by simp only [List.getElem?_toArray, List.getElem?_cons_succ, List.getElem?_cons_zero]; exact rfl) (fun K hK => ?_) AllC.nil
        go_simp
        have K6 := hide (And.intro (K5.out.1.step (kept_alloc (kept_refl _) (.cells #[.int .i64 1, .int .i64 2, .int .i64 0, .int .i64 0, .int .i64 0, .int .i64 0, .int .i64 0, .int .i64 0, .int .i64 3, .int .i64 1, .int .i64 5, .int .i64 0, .int .i64 0, .int .i64 0, .int .i64 0, .int .i64 0] 25))) (K5.out.2.more 25 #[.int .i64 1, .int .i64 2, .int .i64 0, .int .i64 0, .int .i64 0, .int .i64 0, .int .i64 0, .int .i64 0, .int .i64 3, .int .i64 1, .int .i64 5, .int .i64 0, .int .i64 0, .int .i64 0, .int .i64 0, .int .i64 0]))
        refine hK.out _ _ K6.out.1 ?_
        clear hK K K5
        generalize World.alloc w5 _ = w6 at K6 ⊢
        generalize w5.heap.size = g4 at K6 ⊢
        clear w5
        refine anyC_ready (rs := [5]) (by kernel_rfl) (by simp) ?_
        refine AllC.cons (by simp only [List.getElem?_toArray, List.getElem?_cons_succ, List.getElem?_cons_zero]; exact rfl) (fun K hK => ?_) AllC.nil
        go_simp
        refine (join_runs K6.out.2 g4 (by simp)).mono ?_
        rintro e w7 ⟨rfl, hb⟩
        have K7 := hide (And.intro (K6.out.1.step hb) (K6.out.2.below hb))
        refine hK.out _ _ K7.out.1 ?_
        clear hK K K6 hb
        clear w6
        refine anyC_ready (rs := [7]) (by kernel_rfl) (by simp) ?_
        refine AllC.cons (by simp only [List.getElem?_toArray, List.getElem?_cons_succ, List.getElem?_cons_zero]; exact rfl) (fun K hK => ?_) AllC.nil
        go_simp
        refine (at2_rows K7.out.2 3 2 5 g6 (by simp)).mono ?_
        rintro e w8 ⟨rfl, hb⟩
        have K8 := hide (And.intro (K7.out.1.step hb) (K7.out.2.below hb))
        refine hK.out _ _ K8.out.1 ?_
        clear hK K K7 hb
        clear w7
        refine anyC_ready (rs := [8]) (by kernel_rfl) (by simp) ?_
        refine AllC.cons (by simp only [List.getElem?_toArray, List.getElem?_cons_succ, List.getElem?_cons_zero]; exact rfl) (fun K hK => ?_) AllC.nil
        go_simp
        refine hK.out _ _ K8.out.1 ?_
        clear hK K
        exact anyC_done (by kernel_rfl) ⟨K8.out.1, _, _, _, _, rfl⟩
      refine AllC.cons (by simp only [List.getElem?_toArray, List.getElem?_cons_succ, List.getElem?_cons_zero]; exact rfl) (fun K hK => ?_) ?_
      · go_simp
        have K2 := hide (And.intro (K1.out.1.step (kept_alloc (kept_refl _) (.cells #[.int .i64 1, .int .i64 5] 3))) (K1.out.2.more 3 #[.int .i64 1, .int .i64 5]))
        refine hK.out _ _ K2.out.1 ?_
        clear hK K K1
        generalize World.alloc w1 _ = w2 at K2 ⊢
        generalize w1.heap.size = g2x at K2 ⊢
        clear w1
        refine anyC_ready (rs := [1, 6]) (by kernel_rfl) (by simp) ?_
        refine AllC.cons (by simp only [List.getElem?_toArray, List.getElem?_cons_succ, List.getElem?_cons_zero]; exact rfl) (fun K hK => ?_) ?_
        · go_simp
          refine (at2_rows K2.out.2 1 2 0 g0 (by simp)).mono ?_
          rintro e w3 ⟨rfl, hb⟩
          have K3 := hide (And.intro (K2.out.1.step hb) (K2.out.2.below hb))
          refine hK.out _ _ K3.out.1 ?_
          clear hK K K2 hb
          clear w2
          refine anyC_ready (rs := [3, 6]) (by kernel_rfl) (by simp) ?_
          refine AllC.cons (by simp only [List.getElem?_toArray, List.getElem?_cons_succ, List.getElem?_cons_zero]; exact rfl) (fun K hK => ?_) ?_
          · go_simp
            refine (at2_rows K3.out.2 3 1 5 g2x (by simp)).mono ?_
            rintro e w4 ⟨rfl, hb⟩
            have K4 := hide (And.intro (K3.out.1.step hb) (K3.out.2.below hb))
            refine hK.out _ _ K4.out.1 ?_
            clear hK K K3 hb
            clear w3
            refine anyC_ready (rs := [4, 6]) (by kernel_rfl) (by simp) ?_
            refine AllC.cons (by simp only [List.getElem?_toArray, List.getElem?_cons_succ, List.getElem?_cons_zero]; exact rfl) (fun K hK => ?_) ?_
            · go_simp
              have K5 := hide (And.intro (K4.out.1.step (kept_alloc (kept_refl _) (.cells #[.int .i64 1, .int .i64 2, .int .i64 0, .int .i64 0, .int .i64 0, .int .i64 0, .int .i64 0, .int .i64 0, .int .i64 3, .int .i64 1, .int .i64 5, .int .i64 0, .int .i64 0, .int .i64 0, .int .i64 0, .int .i64 0] 25))) (K4.out.2.more 25 #[.int .i64 1, .int .i64 2, .int .i64 0, .int .i64 0, .int .i64 0, .int .i64 0, .int .i64 0, .int .i64 0, .int .i64 3, .int .i64 1, .int .i64 5, .int .i64 0, .int .i64 0, .int .i64 0, .int .i64 0, .int .i64 0]))
              refine hK.out _ _ K5.out.1 ?_
              clear hK K K4
              generalize World.alloc w4 _ = w5 at K5 ⊢
              generalize w4.heap.size = g4 at K5 ⊢
              clear w4
              refine anyC_ready (rs := [5, 6]) (by kernel_rfl) (by simp) ?_
              refine AllC.cons (by simp only [List.getElem?_toArray, List.getElem?_cons_succ, List.getElem?_cons_zero]; exact rfl) (fun K hK => ?_) ?_
              · go_simp
                refine (join_runs K5.out.2 g4 (by simp)).mono ?_
                rintro e w6 ⟨rfl, hb⟩
                have K6 := hide (And.intro (K5.out.1.step hb) (K5.out.2.below hb))
                refine hK.out _ _ K6.out.1 ?_
                clear hK K K5 hb
                clear w5
                refine anyC_ready (rs := [6]) (by kernel_rfl) (by simp) ?_
                refine AllC.cons (by simp only [List.getElem?_toArray, List.getElem?_cons_succ, List.getElem?_cons_zero]; exact rfl) (fun K hK => ?_) AllC.nil
                go_simp
                have K7 := hide (And.intro (K6.out.1.step (kept_alloc (kept_refl _) (.cells #[.int .i64 2, .int .i64 5] 3))) (K6.out.2.more 3 #[.int .i64 2, .int .i64 5]))
                refine hK.out _ _ K7.out.1 ?_
                clear hK K K6
                generalize World.alloc w6 _ = w7 at K7 ⊢
                generalize w6.heap.size = g6 at K7 ⊢
                clear w6
                refine anyC_ready (rs := [7]) (by kernel_rfl) (by simp) ?_
                refine AllC.cons (by simp only [List.getElem?_toArray, List.getElem?_cons_succ, List.getElem?_cons_zero]; exact rfl) (fun K hK => ?_) AllC.nil
                go_simp
                refine (at2_rows K7.out.2 3 2 5 g6 (by simp)).mono ?_
                rintro e w8 ⟨rfl, hb⟩
                have K8 := hide (And.intro (K7.out.1.step hb) (K7.out.2.below hb))
                refine hK.out _ _ K8.out.1 ?_
                clear hK K K7 hb
                clear w7
                refine anyC_ready (rs := [8]) (by kernel_rfl) (by simp) ?_
                refine AllC.cons (by simp only [List.getElem?_toArray, List.getElem?_cons_succ, List.getElem?_cons_zero]; exact rfl) (fun K hK => ?_) AllC.nil
                go_simp
                refine hK.out _ _ K8.out.1 ?_
                clear hK K
                exact anyC_done (by kernel_rfl) ⟨K8.out.1, _, _, _, _, rfl⟩
              refine AllC.cons (by simp only [List.getElem?_toArray, List.getElem?_cons_succ, List.getElem?_cons_zero]; exact rfl) (fun K hK => ?_) AllC.nil
              go_simp
              have K6 := hide (And.intro (K5.out.1.step (kept_alloc (kept_refl _) (.cells #[.int .i64 2, .int .i64 5] 3))) (K5.out.2.more 3 #[.int .i64 2, .int .i64 5]))
              refine hK.out _ _ K6.out.1 ?_
              clear hK K K5
              generalize World.alloc w5 _ = w6 at K6 ⊢
              generalize w5.heap.size = g6 at K6 ⊢
              clear w5
              refine anyC_ready (rs := [5]) (by kernel_rfl) (by simp) ?_
              refine AllC.cons (by simp only [List.getElem?_toArray, List.getElem?_cons_succ, List.getElem?_cons_zero]; exact rfl) (fun K hK => ?_) AllC.nil
              go_simp
              refine (join_runs K6.out.2 g4 (by simp)).mono ?_
              rintro e w7 ⟨rfl, hb⟩
              have K7 := hide (And.intro (K6.out.1.step hb) (K6.out.2.below hb))
              refine hK.out _ _ K7.out.1 ?_
              clear hK K K6 hb
              clear w6
              refine anyC_ready (rs := [7]) (by kernel_rfl) (by simp) ?_
              refine AllC.cons (by simp only [List.getElem?_toArray, List.getElem?_cons_succ, List.getElem?_cons_zero]; exact rfl) (fun K hK => ?_) AllC.nil
              go_simp
              refine (at2_rows K7.out.2 3 2 5 g6 (by simp)).mono ?_
              rintro e w8 ⟨rfl, hb⟩
              have K8 := hide (And.intro (K7.out.1.step hb) (K7.out.2.below hb))
              refine hK.out _ _ K8.out.1 ?_
              clear hK K K7 hb
              clear w7
              refine anyC_ready (rs := [8]) (by kernel_rfl) (by simp) ?_
              refine AllC.cons (by simp only [List.getElem?_toArray, List.getElem?_cons_succ, List.getElem?_cons_zero]; exact rfl) (fun K hK => ?_) AllC.nil
              go_simp
              refine hK.out _ _ K8.out.1 ?_
              clear hK K
              exact anyC_done (by kernel_rfl) ⟨K8.out.1, _, _, _, _, rfl⟩
            refine AllC.cons (by simp only [List.getElem?_toArray, List.getElem?_cons_succ, List.getElem?_cons_zero]; exact rfl) (fun K hK => ?_) AllC.nil
            go_simp
            have K5 := hide (And.intro (K4.out.1.step (kept_alloc (kept_refl _) (.cells #[.int .i64 2, .int .i64 5] 3))) (K4.out.2.more 3 #[.int .i64 2, .int .i64 5]))
            refine hK.out _ _ K5.out.1 ?_
            clear hK K K4
            generalize World.alloc w4 _ = w5 at K5 ⊢
            generalize w4.heap.size = g6 at K5 ⊢
            clear w4
            refine anyC_ready (rs := [4]) (by kernel_rfl) (by simp) ?_
            refine AllC.cons (by simp only [List.getElem?_toArray, List.getElem?_cons_succ, List.getElem?_cons_zero]; exact rfl) (fun K hK => ?_) AllC.nil
            go_simp
            have K6 := hide (And.intro (K5.out.1.step (kept_alloc (kept_refl _) (.cells #[.int .i64 1, .int .i64 2, .int .i64 0, .int .i64 0, .int .i64 0, .int .i64 0, .int .i64 0, .int .i64 0, .int .i64 3, .int .i64 1, .int .i64 5, .int .i64 0, .int .i64 0, .int .i64 0, .int .i64 0, .int .i64 0] 25))) (K5.out.2.more 25 #[.int .i64 1, .int .i64 2, .int .i64 0, .int .i64 0, .int .i64 0, .int .i64 0, .int .i64 0, .int .i64 0, .int .i64 3, .int .i64 1, .int .i64 5, .int .i64 0, .int .i64 0, .int .i64 0, .int .i64 0, .int .i64 0]))
            refine hK.out _ _ K6.out.1 ?_
            clear hK K K5
            generalize World.alloc w5 _ = w6 at K6 ⊢
            generalize w5.heap.size = g4 at K6 ⊢
            clear w5
            refine anyC_ready (rs := [5]) (by kernel_rfl) (by simp) ?_
            refine AllC.cons (by simp only [List.getElem?_toArray, List.getElem?_cons_succ, List.getElem?_cons_zero]; exact rfl) (fun K hK => ?_) AllC.nil
            go_simp
            refine (join_runs K6.out.2 g4 (by simp)).mono ?_
            rintro e w7 ⟨rfl, hb⟩
            have K7 := hide (And.intro (K6.out.1.step hb) (K6.out.2.below hb))
            refine hK.out _ _ K7.out.1 ?_
            clear hK K K6 hb
            clear w6
            refine anyC_ready (rs := [7]) (by kernel_rfl) (by simp) ?_
            refine AllC.cons (by simp only [List.getElem?_toArray, List.getElem?_cons_succ, List.getElem?_cons_zero]; exact rfl) (fun K hK => ?_) AllC.nil
            go_simp
            refine (at2_rows K7.out.2 3 2 5 g6 (by simp)).mono ?_
            rintro e w8 ⟨rfl, hb⟩
            have K8 := hide (And.intro (K7.out.1.step hb) (K7.out.2.below hb))
            refine hK.out _ _ K8.out.1 ?_
            clear hK K K7 hb
            clear w7
            refine anyC_ready (rs := [8]) (by kernel_rfl) (by simp) ?_
            refine AllC.cons (by simp only [List.getElem?_toArray, List.getElem?_cons_succ, List.getElem?_cons_zero]; exact rfl) (fun K hK => ?_) AllC.nil
            go_simp
            refine hK.out _ _ K8.out.1 ?_
            clear hK K
            exact anyC_done (by kernel_rfl) ⟨K8.out.1, _, _, _, _, rfl⟩
          refine AllC.cons (by simp only [List.getElem?_toArray, List.getElem?_cons_succ, List.getElem?_cons_zero]; exact rfl) (fun K hK => ?_) AllC.nil
          go_simp
          have K4 := hide (And.intro (K3.out.1.step (kept_alloc (kept_refl _) (.cells #[.int .i64 2, .int .i64 5] 3))) (K3.out.2.more 3 #[.int .i64 2, .int .i64 5]))
          refine hK.out _ _ K4.out.1 ?_
          clear hK K K3
          generalize World.alloc w3 _ = w4 at K4 ⊢
          generalize w3.heap.size = g6 at K4 ⊢
          clear w3
          refine anyC_ready (rs := [3]) (by kernel_rfl) (by simp) ?_
          refine AllC.cons (by simp only [List.getElem?_toArray, List.getElem?_cons_succ, List.getElem?_cons_zero]; exact rfl) (fun K hK => ?_) AllC.nil
          go_simp
          refine (at2_rows K4.out.2 3 1 5 g2x (by simp)).mono ?_
          rintro e w5 ⟨rfl, hb⟩
          have K5 := hide (And.intro (K4.out.1.step hb) (K4.out.2.below hb))
          refine hK.out _ _ K5.out.1 ?_
          clear hK K K4 hb
          clear w4
          refine anyC_ready (rs := [4]) (by kernel_rfl) (by simp) ?_
          refine AllC.cons (by simp only [List.getElem?_toArray, List.getElem?_cons_succ, List.getElem?_cons_zero]; exact rfl) (fun K hK => ?_) AllC.nil
          go_simp
          have K6 := hide (And.intro (K5.out.1.step (kept_alloc (kept_refl _) (.cells #[.int .i64 1, .int .i64 2, .int .i64 0, .int .i64 0, .int .i64 0, .int .i64 0, .int .i64 0, .int .i64 0, .int .i64 3, .int .i64 1, .int .i64 5, .int .i64 0, .int .i64 0, .int .i64 0, .int .i64 0, .int .i64 0] 25))) (K5.out.2.more 25 #[.int .i64 1, .int .i64 2, .int .i64 0, .int .i64 0, .int .i64 0, .int .i64 0, .int .i64 0, .int .i64 0, .int .i64 3, .int .i64 1, .int .i64 5, .int .i64 0, .int .i64 0, .int .i64 0, .int .i64 0, .int .i64 0]))
          refine hK.out _ _ K6.out.1 ?_
          clear hK K K5
          generalize World.alloc w5 _ = w6 at K6 ⊢
          generalize w5.heap.size = g4 at K6 ⊢
          clear w5
          refine anyC_ready (rs := [5]) (by kernel_rfl) (by simp) ?_
          refine AllC.cons (by simp only [List.getElem?_toArray, List.getElem?_cons_succ, List.getElem?_cons_zero]; exact rfl) (fun K hK => ?_) AllC.nil
          go_simp
          refine (join_runs K6.out.2 g4 (by simp)).mono ?_
          rintro e w7 ⟨rfl, hb⟩
          have K7 := hide (And.intro (K6.out.1.step hb) (K6.out.2.below hb))
          refine hK.out _ _ K7.out.1 ?_
          clear hK K K6 hb
          clear w6
          refine anyC_ready (rs := [7]) (by kernel_rfl) (by simp) ?_
          refine AllC.cons (by simp only [List.getElem?_toArray, List.getElem?_cons_succ, List.getElem?_cons_zero]; exact rfl) (fun K hK => ?_) AllC.nil
          go_simp
          refine (at2_rows K7.out.2 3 2 5 g6 (by simp)).mono ?_
          rintro e w8 ⟨rfl, hb⟩
          have K8 := hide (And.intro (K7.out.1.step hb) (K7.out.2.below hb))
          refine hK.out _ _ K8.out.1 ?_
          clear hK K K7 hb
          clear w7
          refine anyC_ready (rs := [8]) (by kernel_rfl) (by simp) ?_
          refine AllC.cons (by simp only [List.getElem?_toArray, List.getElem?_cons_succ, List.getElem?_cons_zero]; exact rfl) (fun K hK => ?_) AllC.nil
          go_simp
          refine hK.out _ _ K8.out.1 ?_
          clear hK K
          exact anyC_done (by kernel_rfl) ⟨K8.out.1, _, _, _, _, rfl⟩
        refine AllC.cons (by simp only [List.getElem?_toArray, List.getElem?_cons_succ, List.getElem?_cons_zero]; exact rfl) (fun K hK => ?_) AllC.nil
        go_simp
        have K3 := hide (And.intro (K2.out.1.step (kept_alloc (kept_refl _) (.cells #[.int .i64 2, .int .i64 5] 3))) (K2.out.2.more 3 #[.int .i64 2, .int .i64 5]))
        refine hK.out _ _ K3.out.1 ?_
        clear hK K K2
        generalize World.alloc w2 _ = w3 at K3 ⊢
        generalize w2.heap.size = g6 at K3 ⊢
        clear w2
        refine anyC_ready (rs := [1]) (by kernel_rfl) (by simp) ?_
        refine AllC.cons (by simp only [List.getElem?_toArray, List.getElem?_cons_succ, List.getElem?_cons_zero]; exact rfl) (fun K hK => ?_) AllC.nil
        go_simp
        refine (at2_rows K3.out.2 1 2 0 g0 (by simp)).mono ?_
        rintro e w4 ⟨rfl, hb⟩
        have K4 := hide (And.intro (K3.out.1.step hb) (K3.out.2.below hb))
        refine hK.out _ _ K4.out.1 ?_
        clear hK K K3 hb
        clear w3
        refine anyC_ready (rs := [3]) (by kernel_rfl) (by simp) ?_
        refine AllC.cons (by simp only [List.getElem?_toArray, List.getElem?_cons_succ, List.getElem?_cons_zero]; exact rfl) (fun K hK => ?_) AllC.nil
        go_simp
        refine (at2_rows K4.out.2 3 1 5 g2x (by simp)).mono ?_
        rintro e w5 ⟨rfl, hb⟩
        have K5 := hide (And.intro (K4.out.1.step hb) (K4.out.2.below hb))
        refine hK.out _ _ K5.out.1 ?_
        clear hK K K4 hb
        clear w4
        refine anyC_ready (rs := [4]) (by kernel_rfl) (by simp) ?_
        refine AllC.cons (by simp only [List.getElem?_toArray, List.getElem?_cons_succ, List.getElem?_cons_zero]; exact rfl) (fun K hK => ?_) AllC.nil
        go_simp
        have K6 := hide (And.intro (K5.out.1.step (kept_alloc (kept_refl _) (.cells #[.int .i64 1, .int .i64 2, .int .i64 0, .int .i64 0, .int .i64 0, .int .i64 0, .int .i64 0, .int .i64 0, .int .i64 3, .int .i64 1, .int .i64 5, .int .i64 0, .int .i64 0, .int .i64 0, .int .i64 0, .int .i64 0] 25))) (K5.out.2.more 25 #[.int .i64 1, .int .i64 2, .int .i64 0, .int .i64 0, .int .i64 0, .int .i64 0, .int .i64 0, .int .i64 0, .int .i64 3, .int .i64 1, .int .i64 5, .int .i64 0, .int .i64 0, .int .i64 0, .int .i64 0, .int .i64 0]))
        refine hK.out _ _ K6.out.1 ?_
        clear hK K K5
        generalize World.alloc w5 _ = w6 at K6 ⊢
        generalize w5.heap.size = g4 at K6 ⊢
        clear w5
        refine anyC_ready (rs := [5]) (by kernel_rfl) (by simp) ?_
        refine AllC.cons (by simp only [List.getElem?_toArray, List.getElem?_cons_succ, List.getElem?_cons_zero]; exact rfl) (fun K hK => ?_) AllC.nil
        go_simp
        refine (join_runs K6.out.2 g4 (by simp)).mono ?_
        rintro e w7 ⟨rfl, hb⟩
        have K7 := hide (And.intro (K6.out.1.step hb) (K6.out.2.below hb))
        refine hK.out _ _ K7.out.1 ?_
        clear hK K K6 hb
        clear w6
        refine anyC_ready (rs := [7]) (by kernel_rfl) (by simp) ?_
        refine AllC.cons (by simp only [List.getElem?_toArray, List.getElem?_cons_succ, List.getElem?_cons_zero]; exact rfl) (fun K hK => ?_) AllC.nil
        go_simp
        refine (at2_rows K7.out.2 3 2 5 g6 (by simp)).mono ?_
        rintro e w8 ⟨rfl, hb⟩
        have K8 := hide (And.intro (K7.out.1.step hb) (K7.out.2.below hb))
        refine hK.out _ _ K8.out.1 ?_
        clear hK K K7 hb
        clear w7
        refine anyC_ready (rs := [8]) (by kernel_rfl) (by simp) ?_
        refine AllC.cons (by simp only [List.getElem?_toArray, List.getElem?_cons_succ, List.getElem?_cons_zero]; exact rfl) (fun K hK => ?_) AllC.nil
        go_simp
        refine hK.out _ _ K8.out.1 ?_
        clear hK K
        exact anyC_done (by kernel_rfl) ⟨K8.out.1, _, _, _, _, rfl⟩
      refine AllC.cons (by simp only [List.getElem?_toArray, List.getElem?_cons_succ, List.getElem?_cons_zero]; exact rfl) (fun K hK => ?_) AllC.nil
      go_simp
      have K2 := hide (And.intro (K1.out.1.step (kept_alloc (kept_refl _) (.cells #[.int .i64 2, .int .i64 5] 3))) (K1.out.2.more 3 #[.int .i64 2, .int .i64 5]))
      refine hK.out _ _ K2.out.1 ?_
      clear hK K K1
      generalize World.alloc w1 _ = w2 at K2 ⊢
      generalize w1.heap.size = g6 at K2 ⊢
      clear w1
      refine anyC_ready (rs := [1, 2]) (by kernel_rfl) (by simp) ?_
      refine AllC.cons (by simp only [List.getElem?_toArray, List.getElem?_cons_succ, List.getElem?_cons_zero]; exact rfl) (fun K hK => ?_) ?_
      · go_simp
        refine (at2_rows K2.out.2 1 2 0 g0 (by simp)).mono ?_
        rintro e w3 ⟨rfl, hb⟩
        have K3 := hide (And.intro (K2.out.1.step hb) (K2.out.2.below hb))
        refine hK.out _ _ K3.out.1 ?_
        clear hK K K2 hb
        clear w2
        refine anyC_ready (rs := [2]) (by kernel_rfl) (by simp) ?_
        refine AllC.cons (by simp only [List.getElem?_toArray, List.getElem?_cons_succ, List.getElem?_cons_zero]; exact rfl) (fun K hK => ?_) AllC.nil
        go_simp
        have K4 := hide (And.intro (K3.out.1.step (kept_alloc (kept_refl _) (.cells #[.int .i64 1, .int .i64 5] 3))) (K3.out.2.more 3 #[.int .i64 1, .int .i64 5]))
        refine hK.out _ _ K4.out.1 ?_
        clear hK K K3
        generalize World.alloc w3 _ = w4 at K4 ⊢
        generalize w3.heap.size = g2x at K4 ⊢
        clear w3
        refine anyC_ready (rs := [3]) (by kernel_rfl) (by simp) ?_
        refine AllC.cons (by simp only [List.getElem?_toArray, List.getElem?_cons_succ, List.getElem?_cons_zero]; exact rfl) (fun K hK => ?_) AllC.nil
        go_simp
        refine (at2_rows K4.out.2 3 1 5 g2x (by simp)).mono ?_
        rintro e w5 ⟨rfl, hb⟩
        have K5 := hide (And.intro (K4.out.1.step hb) (K4.out.2.below hb))
        refine hK.out _ _ K5.out.1 ?_
        clear hK K K4 hb
        clear w4
        refine anyC_ready (rs := [4]) (by kernel_rfl) (by simp) ?_
        refine AllC.cons (by simp only [List.getElem?_toArray, List.getElem?_cons_succ, List.getElem?_cons_zero]; exact rfl) (fun K hK => ?_) AllC.nil
        go_simp
        have K6 := hide (And.intro (K5.out.1.step (kept_alloc (kept_refl _) (.cells #[.int .i64 1, .int .i64 2, .int .i64 0, .int .i64 0, .int .i64 0, .int .i64 0, .int .i64 0, .int .i64 0, .int .i64 3, .int .i64 1, .int .i64 5, .int .i64 0, .int .i64 0, .int .i64 0, .int .i64 0, .int .i64 0] 25))) (K5.out.2.more 25 #[.int .i64 1, .int .i64 2, .int .i64 0, .int .i64 0, .int .i64 0, .int .i64 0, .int .i64 0, .int .i64 0, .int .i64 3, .int .i64 1, .int .i64 5, .int .i64 0, .int .i64 0, .int .i64 0, .int .i64 0, .int .i64 0]))
        refine hK.out _ _ K6.out.1 ?_
        clear hK K K5
        generalize World.alloc w5 _ = w6 at K6 ⊢
        generalize w5.heap.size = g4 at K6 ⊢
        clear w5
        refine anyC_ready (rs := [5]) (by kernel_rfl) (by simp) ?_
        refine AllC.cons (by simp only [List.getElem?_toArray, List.getElem?_cons_succ, List.getElem?_cons_zero]; exact rfl) (fun K hK => ?_) AllC.nil
        go_simp
        refine (join_runs K6.out.2 g4 (by simp)).mono ?_
        rintro e w7 ⟨rfl, hb⟩
        have K7 := hide (And.intro (K6.out.1.step hb) (K6.out.2.below hb))
        refine hK.out _ _ K7.out.1 ?_
        clear hK K K6 hb
        clear w6
        refine anyC_ready (rs := [7]) (by kernel_rfl) (by simp) ?_
        refine AllC.cons (by simp only [List.getElem?_toArray, List.getElem?_cons_succ, List.getElem?_cons_zero]; exact rfl) (fun K hK => ?_) AllC.nil
        go_simp
        refine (at2_rows K7.out.2 3 2 5 g6 (by simp)).mono ?_
        rintro e w8 ⟨rfl, hb⟩
        have K8 := hide (And.intro (K7.out.1.step hb) (K7.out.2.below hb))
        refine hK.out _ _ K8.out.1 ?_
        clear hK K K7 hb
        clear w7
        refine anyC_ready (rs := [8]) (by kernel_rfl) (by simp) ?_
        refine AllC.cons (by simp only [List.getElem?_toArray, List.getElem?_cons_succ, List.getElem?_cons_zero]; exact rfl) (fun K hK => ?_) AllC.nil
        go_simp
        refine hK.out _ _ K8.out.1 ?_
        clear hK K
        exact anyC_done (by kernel_rfl) ⟨K8.out.1, _, _, _, _, rfl⟩
      refine AllC.cons (by simp only [List.getElem?_toArray, List.getElem?_cons_succ, List.getElem?_cons_zero]; exact rfl) (fun K hK => ?_) AllC.nil
      go_simp
      have K3 := hide (And.intro (K2.out.1.step (kept_alloc (kept_refl _) (.cells #[.int .i64 1, .int .i64 5] 3))) (K2.out.2.more 3 #[.int .i64 1, .int .i64 5]))
      refine hK.out _ _ K3.out.1 ?_
      clear hK K K2
      generalize World.alloc w2 _ = w3 at K3 ⊢
      generalize w2.heap.size = g2x at K3 ⊢
      clear w2
      refine anyC_ready (rs := [1]) (by kernel_rfl) (by simp) ?_
      refine AllC.cons (by simp only [List.getElem?_toArray, List.getElem?_cons_succ, List.getElem?_cons_zero]; exact rfl) (fun K hK => ?_) AllC.nil
      go_simp
      refine (at2_rows K3.out.2 1 2 0 g0 (by simp)).mono ?_
      rintro e w4 ⟨rfl, hb⟩
      have K4 := hide (And.intro (K3.out.1.step hb) (K3.out.2.below hb))
      refine hK.out _ _ K4.out.1 ?_
      clear hK K K3 hb
      clear w3
      refine anyC_ready (rs := [3]) (by kernel_rfl) (by simp) ?_
      refine AllC.cons (by simp only [List.getElem?_toArray, List.getElem?_cons_succ, List.getElem?_cons_zero]; exact rfl) (fun K hK => ?_) AllC.nil
      go_simp
      refine (at2_rows K4.out.2 3 1 5 g2x (by simp)).mono ?_
      rintro e w5 ⟨rfl, hb⟩
      have K5 := hide (And.intro (K4.out.1.step hb) (K4.out.2.below hb))
      refine hK.out _ _ K5.out.1 ?_
      clear hK K K4 hb
      clear w4
      refine anyC_ready (rs := [4]) (by kernel_rfl) (by simp) ?_
      refine AllC.cons (by simp only [List.getElem?_toArray, List.getElem?_cons_succ, List.getElem?_cons_zero]; exact rfl) (fun K hK => ?_) AllC.nil
      go_simp
      have K6 := hide (And.intro (K5.out.1.step (kept_alloc (kept_refl _) (.cells #[.int .i64 1, .int .i64 2, .int .i64 0, .int .i64 0, .int .i64 0, .int .i64 0, .int .i64 0, .int .i64 0, .int .i64 3, .int .i64 1, .int .i64 5, .int .i64 0, .int .i64 0, .int .i64 0, .int .i64 0, .int .i64 0] 25))) (K5.out.2.more 25 #[.int .i64 1, .int .i64 2, .int .i64 0, .int .i64 0, .int .i64 0, .int .i64 0, .int .i64 0, .int .i64 0, .int .i64 3, .int .i64 1, .int .i64 5, .int .i64 0, .int .i64 0, .int .i64 0, .int .i64 0, .int .i64 0]))
      refine hK.out _ _ K6.out.1 ?_
      clear hK K K5
      generalize World.alloc w5 _ = w6 at K6 ⊢
      generalize w5.heap.size = g4 at K6 ⊢
      clear w5
      refine anyC_ready (rs := [5]) (by kernel_rfl) (by simp) ?_
      refine AllC.cons (by simp only [List.getElem?_toArray, List.getElem?_cons_succ, List.getElem?_cons_zero]; exact rfl) (fun K hK => ?_) AllC.nil
      go_simp
      refine (join_runs K6.out.2 g4 (by simp)).mono ?_
      rintro e w7 ⟨rfl, hb⟩
      have K7 := hide (And.intro (K6.out.1.step hb) (K6.out.2.below hb))
      refine hK.out _ _ K7.out.1 ?_
      clear hK K K6 hb
      clear w6
      refine anyC_ready (rs := [7]) (by kernel_rfl) (by simp) ?_
      refine AllC.cons (by simp only [List.getElem?_toArray, List.getElem?_cons_succ, List.getElem?_cons_zero]; exact rfl) (fun K hK => ?_) AllC.nil
      go_simp
      refine (at2_rows K7.out.2 3 2 5 g6 (by simp)).mono ?_
      rintro e w8 ⟨rfl, hb⟩
      have K8 := hide (And.intro (K7.out.1.step hb) (K7.out.2.below hb))
      refine hK.out _ _ K8.out.1 ?_
      clear hK K K7 hb
      clear w7
      refine anyC_ready (rs := [8]) (by kernel_rfl) (by simp) ?_
      refine AllC.cons (by simp only [List.getElem?_toArray, List.getElem?_cons_succ, List.getElem?_cons_zero]; exact rfl) (fun K hK => ?_) AllC.nil
      go_simp
      refine hK.out _ _ K8.out.1 ?_
      clear hK K
      exact anyC_done (by kernel_rfl) ⟨K8.out.1, _, _, _, _, rfl⟩
    refine AllC.cons (by simp only [List.getElem?_toArray, List.getElem?_cons_succ, List.getElem?_cons_zero]; exact rfl) (fun K hK => ?_) ?_
    · go_simp
      have K1 := hide (And.intro (K0.out.1.step (kept_alloc (kept_refl _) (.cells #[.int .i64 1, .int .i64 5] 3))) (K0.out.2.more 3 #[.int .i64 1, .int .i64 5]))
      refine hK.out _ _ K1.out.1 ?_
      clear hK K K0
      generalize World.alloc w0 _ = w1 at K1 ⊢
      generalize w0.heap.size = g2x at K1 ⊢
      clear w0
      refine anyC_ready (rs := [0, 6]) (by kernel_rfl) (by simp) ?_
      refine AllC.cons (by simp only [List.getElem?_toArray, List.getElem?_cons_zero]; exact rfl) (fun K hK => ?_) ?_
      · go_simp
        have K2 := hide (And.intro (K1.out.1.step (kept_alloc (kept_refl _) (.cells #[.int .i64 2, .int .i64 0] 3))) (K1.out.2.more 3 #[.int .i64 2, .int .i64 0]))
        refine hK.out _ _ K2.out.1 ?_
        clear hK K K1
        generalize World.alloc w1 _ = w2 at K2 ⊢
        generalize w1.heap.size = g0 at K2 ⊢
        clear w1
        refine anyC_ready (rs := [1, 6]) (by kernel_rfl) (by simp) ?_
        refine AllC.cons (by simp only [List.getElem?_toArray, List.getElem?_cons_succ, List.getElem?_cons_zero]; exact rfl) (fun K hK => ?_) ?_
        · go_simp
          refine (at2_rows K2.out.2 1 2 0 g0 (by simp)).mono ?_
          rintro e w3 ⟨rfl, hb⟩
          have K3 := hide (And.intro (K2.out.1.step hb) (K2.out.2.below hb))
          refine hK.out _ _ K3.out.1 ?_
          clear hK K K2 hb
          clear w2
          refine anyC_ready (rs := [3, 6]) (by kernel_rfl) (by simp) ?_
          refine AllC.cons (by simp only [List.getElem?_toArray, List.getElem?_cons_succ, List.getElem?_cons_zero]; exact rfl) (fun K hK => ?_) ?_
          · go_simp
            refine (at2_rows K3.out.2 3 1 5 g2x (by simp)).mono ?_
            rintro e w4 ⟨rfl, hb⟩
            have K4 := hide (And.intro (K3.out.1.step hb) (K3.out.2.below hb))
            refine hK.out _ _ K4.out.1 ?_
            clear hK K K3 hb
            clear w3
            refine anyC_ready (rs := [4, 6]) (by kernel_rfl) (by simp) ?_
            refine AllC.cons (by simp only [List.getElem?_toArray, List.getElem?_cons_succ, List.getElem?_cons_zero]; exact rfl) (fun K hK => ?_) ?_
            · go_simp
              have K5 := hide (And.intro (K4.out.1.step (kept_alloc (kept_refl _) (.cells #[.int .i64 1, .int .i64 2, .int .i64 0, .int .i64 0, .int .i64 0, .int .i64 0, .int .i64 0, .int .i64 0, .int .i64 3, .int .i64 1, .int .i64 5, .int .i64 0, .int .i64 0, .int .i64 0, .int .i64 0, .int .i64 0] 25))) (K4.out.2.more 25 #[.int .i64 1, .int .i64 2, .int .i64 0, .int .i64 0, .int .i64 0, .int .i64 0, .int .i64 0, .int .i64 0, .int .i64 3, .int .i64 1, .int .i64 5, .int .i64 0, .int .i64 0, .int .i64 0, .int .i64 0, .int .i64 0]))
              refine hK.out _ _ K5.out.1 ?_
              clear hK K K4
              generalize World.alloc w4 _ = w5 at K5 ⊢
              generalize w4.heap.size = g4 at K5 ⊢
              clear w4
              refine anyC_ready (rs := [5, 6]) (by kernel_rfl) (by simp) ?_
              refine AllC.cons (by simp only [List.getElem?_toArray, List.getElem?_cons_succ, List.getElem?_cons_zero]; exact rfl) (fun K hK => ?_) ?_
              · go_simp
                refine (join_runs K5.out.2 g4 (by simp)).mono ?_
                rintro e w6 ⟨rfl, hb⟩
                have K6 := hide (And.intro (K5.out.1.step hb) (K5.out.2.below hb))
                refine hK.out _ _ K6.out.1 ?_
                clear hK K K5 hb
                clear w5
                refine anyC_ready (rs := [6]) (by kernel_rfl) (by simp) ?_
                refine AllC.cons (by simp only [List.getElem?_toArray, List.getElem?_cons_succ, List.getElem?_cons_zero]; exact rfl) (fun K hK => ?_) AllC.nil
                go_simp
                have K7 := hide (And.intro (K6.out.1.step (kept_alloc (kept_refl _) (.cells #[.int .i64 2, .int .i64 5] 3))) (K6.out.2.more 3 #[.int .i64 2, .int .i64 5]))
                refine hK.out _ _ K7.out.1 ?_
                clear hK K K6
                generalize World.alloc w6 _ = w7 at K7 ⊢
                generalize w6.heap.size = g6 at K7 ⊢
                clear w6
                refine anyC_ready (rs := [7]) (by kernel_rfl) (by simp) ?_
                refine AllC.cons (by simp only [List.getElem?_toArray, List.getElem?_cons_succ, List.getElem?_cons_zero]; exact rfl) (fun K hK => ?_) AllC.nil
                go_simp
                refine (at2_rows K7.out.2 3 2 5 g6 (by simp)).mono ?_
                rintro e w8 ⟨rfl, hb⟩
                have K8 := hide (And.intro (K7.out.1.step hb) (K7.out.2.below hb))
                refine hK.out _ _ K8.out.1 ?_
                clear hK K K7 hb
                clear w7
                refine anyC_ready (rs := [8]) (by kernel_rfl) (by simp) ?_
                refine AllC.cons (by simp only [List.getElem?_toArray, List.getElem?_cons_succ, List.getElem?_cons_zero]; exact rfl) (fun K hK => ?_) AllC.nil
                go_simp
                refine hK.out _ _ K8.out.1 ?_
                clear hK K
                exact anyC_done (by kernel_rfl) ⟨K8.out.1, _, _, _, _, rfl⟩
              refine AllC.cons (by simp only [List.getElem?_toArray, List.getElem?_cons_succ, List.getElem?_cons_zero]; exact rfl) (fun K hK => ?_) AllC.nil
              go_simp
              have K6 := hide (And.intro (K5.out.1.step (kept_alloc (kept_refl _) (.cells #[.int .i64 2, .int .i64 5] 3))) (K5.out.2.more 3 #[.int .i64 2, .int .i64 5]))
              refine hK.out _ _ K6.out.1 ?_
              clear hK K K5
              generalize World.alloc w5 _ = w6 at K6 ⊢
              generalize w5.heap.size = g6 at K6 ⊢
              clear w5
              refine anyC_ready (rs := [5]) (by kernel_rfl) (by simp) ?_
              refine AllC.cons (by simp only [List.getElem?_toArray, List.getElem?_cons_succ, List.getElem?_cons_zero]; exact rfl) (fun K hK => ?_) AllC.nil
              go_simp
              refine (join_runs K6.out.2 g4 (by simp)).mono ?_
              rintro e w7 ⟨rfl, hb⟩
              have K7 := hide (And.intro (K6.out.1.step hb) (K6.out.2.below hb))
              refine hK.out _ _ K7.out.1 ?_
              clear hK K K6 hb
              clear w6
              refine anyC_ready (rs := [7]) (by kernel_rfl) (by simp) ?_
              refine AllC.cons (by simp only [List.getElem?_toArray, List.getElem?_cons_succ, List.getElem?_cons_zero]; exact rfl) (fun K hK => ?_) AllC.nil
              go_simp
              refine (at2_rows K7.out.2 3 2 5 g6 (by simp)).mono ?_
              rintro e w8 ⟨rfl, hb⟩
              have K8 := hide (And.intro (K7.out.1.step hb) (K7.out.2.below hb))
              refine hK.out _ _ K8.out.1 ?_
              clear hK K K7 hb
              clear w7
              refine anyC_ready (rs := [8]) (by kernel_rfl) (by simp) ?_
              refine AllC.cons (by simp only [List.getElem?_toArray, List.getElem?_cons_succ, List.getElem?_cons_zero]; exact rfl) (fun K hK => ?_) AllC.nil
              go_simp
              refine hK.out _ _ K8.out.1 ?_
              clear hK K
              exact anyC_done (by kernel_rfl) ⟨K8.out.1, _, _, _, _, rfl⟩
            refine AllC.cons (by simp only [List.getElem?_toArray, List.getElem?_cons_succ, List.getElem?_cons_zero]; exact rfl) (fun K hK => ?_) AllC.nil
            go_simp
            have K5 := hide (And.intro (K4.out.1.step (kept_alloc (kept_refl _) (.cells #[.int .i64 2, .int .i64 5] 3))) (K4.out.2.more 3 #[.int .i64 2, .int .i64 5]))
            refine hK.out _ _ K5.out.1 ?_
            clear hK K K4
            generalize World.alloc w4 _ = w5 at K5 ⊢
            generalize w4.heap.size = g6 at K5 ⊢
            clear w4
            refine anyC_ready (rs := [4]) (by kernel_rfl) (by simp) ?_
            refine AllC.cons (by simp only [List.getElem?_toArray, List.getElem?_cons_succ, List.getElem?_cons_zero]; exact rfl) (fun K hK => ?_) AllC.nil
            go_simp
            have K6 := hide (And.intro (K5.out.1.step (kept_alloc (kept_refl _) (.cells #[.int .i64 1, .int .i64 2, .int .i64 0, .int .i64 0, .int .i64 0, .int .i64 0, .int .i64 0, .int .i64 0, .int .i64 3, .int .i64 1, .int .i64 5, .int .i64 0, .int .i64 0, .int .i64 0, .int .i64 0, .int .i64 0] 25))) (K5.out.2.more 25 #[.int .i64 1, .int .i64 2, .int .i64 0, .int .i64 0, .int .i64 0, .int .i64 0, .int .i64 0, .int .i64 0, .int .i64 3, .int .i64 1, .int .i64 5, .int .i64 0, .int .i64 0, .int .i64 0, .int .i64 0, .int .i64 0]))
            refine hK.out _ _ K6.out.1 ?_
            clear hK K K5
            generalize World.alloc w5 _ = w6 at K6 ⊢
            generalize w5.heap.size = g4 at K6 ⊢
            clear w5
            refine anyC_ready (rs := [5]) (by kernel_rfl) (by simp) ?_
            refine AllC.cons (by simp only [List.getElem?_toArray, List.getElem?_cons_succ, List.getElem?_cons_zero]; exact rfl) (fun K hK => ?_) AllC.nil
            go_simp
            refine (join_runs K6.out.2 g4 (by simp)).mono ?_
            rintro e w7 ⟨rfl, hb⟩
            have K7 := hide (And.intro (K6.out.1.step hb) (K6.out.2.below hb))
            refine hK.out _ _ K7.out.1 ?_
            clear hK K K6 hb
            clear w6
            refine anyC_ready (rs := [7]) (by kernel_rfl) (by simp) ?_
            refine AllC.cons (by simp only [List.getElem?_toArray, List.getElem?_cons_succ, List.getElem?_cons_zero]; exact rfl) (fun K hK => ?_) AllC.nil
            go_simp
            refine (at2_rows K7.out.2 3 2 5 g6 (by simp)).mono ?_
            rintro e w8 ⟨rfl, hb⟩
            have K8 := hide (And.intro (K7.out.1.step hb) (K7.out.2.below hb))
            refine hK.out _ _ K8.out.1 ?_
            clear hK K K7 hb
            clear w7
            refine anyC_ready (rs := [8]) (by kernel_rfl) (by simp) ?_
            refine AllC.cons (by simp only [List.getElem?_toArray, List.getElem?_cons_succ, List.getElem?_cons_zero]; exact rfl) (fun K hK => ?_) AllC.nil
            go_simp
            refine hK.out _ _ K8.out.1 ?_
            clear hK K
            exact anyC_done (by kernel_rfl) ⟨K8.out.1, _, _, _, _, rfl⟩
          refine AllC.cons (by simp only [List.getElem?_toArray, List.getElem?_cons_succ, List.getElem?_cons_zero]; exact rfl) (fun K hK => ?_) AllC.nil
          go_simp
          have K4 := hide (And.intro (K3.out.1.step (kept_alloc (kept_refl _) (.cells #[.int .i64 2, .int .i64 5] 3))) (K3.out.2.more 3 #[.int .i64 2, .int .i64 5]))
          refine hK.out _ _ K4.out.1 ?_
          clear hK K K3
          generalize World.alloc w3 _ = w4 at K4 ⊢
          generalize w3.heap.size = g6 at K4 ⊢
          clear w3
          refine anyC_ready (rs := [3]) (by kernel_rfl) (by simp) ?_
          refine AllC.cons (by simp only [List.getElem?_toArray, List.getElem?_cons_succ, List.getElem?_cons_zero]; exact rfl) (fun K hK => ?_) AllC.nil
          go_simp
          refine (at2_rows K4.out.2 3 1 5 g2x (by simp)).mono ?_
          rintro e w5 ⟨rfl, hb⟩
          have K5 := hide (And.intro (K4.out.1.step hb) (K4.out.2.below hb))
          refine hK.out _ _ K5.out.1 ?_
          clear hK K K4 hb
          clear w4
          refine anyC_ready (rs := [4]) (by kernel_rfl) (by simp) ?_
          refine AllC.cons (by simp only [List.getElem?_toArray, List.getElem?_cons_succ, List.getElem?_cons_zero]; exact rfl) (fun K hK => ?_) AllC.nil
          go_simp
          have K6 := hide (And.intro (K5.out.1.step (kept_alloc (kept_refl _) (.cells #[.int .i64 1, .int .i64 2, .int .i64 0, .int .i64 0, .int .i64 0, .int .i64 0, .int .i64 0, .int .i64 0, .int .i64 3, .int .i64 1, .int .i64 5, .int .i64 0, .int .i64 0, .int .i64 0, .int .i64 0, .int .i64 0] 25))) (K5.out.2.more 25 #[.int .i64 1, .int .i64 2, .int .i64 0, .int .i64 0, .int .i64 0, .int .i64 0, .int .i64 0, .int .i64 0, .int .i64 3, .int .i64 1, .int .i64 5, .int .i64 0, .int .i64 0, .int .i64 0, .int .i64 0, .int .i64 0]))
          refine hK.out _ _ K6.out.1 ?_
          clear hK K K5
          generalize World.alloc w5 _ = w6 at K6 ⊢
          generalize w5.heap.size = g4 at K6 ⊢
          clear w5
          refine anyC_ready (rs := [5]) (by kernel_rfl) (by simp) ?_
          refine AllC.cons (by simp only [List.getElem?_toArray, List.getElem?_cons_succ, List.getElem?_cons_zero]; exact rfl) (fun K hK => ?_) AllC.nil
          go_simp
          refine (join_runs K6.out.2 g4 (by simp)).mono ?_
          rintro e w7 ⟨rfl, hb⟩
          have K7 := hide (And.intro (K6.out.1.step hb) (K6.out.2.below hb))
          refine hK.out _ _ K7.out.1 ?_
          clear hK K K6 hb
          clear w6
          refine anyC_ready (rs := [7]) (by kernel_rfl) (by simp) ?_
          refine AllC.cons (by simp only [List.getElem?_toArray, List.getElem?_cons_succ, List.getElem?_cons_zero]; exact rfl) (fun K hK => ?_) AllC.nil
          go_simp
          refine (at2_rows K7.out.2 3 2 5 g6 (by simp)).mono ?_
          rintro e w8 ⟨rfl, hb⟩
          have K8 := hide (And.intro (K7.out.1.step hb) (K7.out.2.below hb))
          refine hK.out _ _ K8.out.1 ?_
          clear hK K K7 hb
          clear w7
          refine anyC_ready (rs := [8]) (by kernel_rfl) (by simp) ?_
          refine AllC.cons (by simp only [List.getElem?_toArray, List.getElem?_cons_succ, List.getElem?_cons_zero]; exact rfl) (fun K hK => ?_) AllC.nil
          go_simp
          refine hK.out _ _ K8.out.1 ?_
          clear hK K
          exact anyC_done (by kernel_rfl) ⟨K8.out.1, _, _, _, _, rfl⟩
        refine AllC.cons (by simp only [List.getElem?_toArray, List.getElem?_cons_succ, List.getElem?_cons_zero]; exact rfl) (fun K hK => ?_) AllC.nil
        go_simp
        have K3 := hide (And.intro (K2.out.1.step (kept_alloc (kept_refl _) (.cells #[.int .i64 2, .int .i64 5] 3))) (K2.out.2.more 3 #[.int .i64 2, .int .i64 5]))
        refine hK.out _ _ K3.out.1 ?_
        clear hK K K2
        generalize World.alloc w2 _ = w3 at K3 ⊢
        generalize w2.heap.size = g6 at K3 ⊢
        clear w2
        refine anyC_ready (rs := [1]) (by kernel_rfl) (by simp) ?_
        refine AllC.cons (by simp only [List.getElem?_toArray, List.getElem?_cons_succ, List.getElem?_cons_zero]; exact rfl) (fun K hK => ?_) AllC.nil
        go_simp
        refine (at2_rows K3.out.2 1 2 0 g0 (by simp)).mono ?_
        rintro e w4 ⟨rfl, hb⟩
        have K4 := hide (And.intro (K3.out.1.step hb) (K3.out.2.below hb))
        refine hK.out _ _ K4.out.1 ?_
        clear hK K K3 hb
        clear w3
        refine anyC_ready (rs := [3]) (by kernel_rfl) (by simp) ?_
        refine AllC.cons (by simp only [List.getElem?_toArray, List.getElem?_cons_succ, List.getElem?_cons_zero]; exact rfl) (fun K hK => ?_) AllC.nil
        go_simp
        refine (at2_rows K4.out.2 3 1 5 g2x (by simp)).mono ?_
        rintro e w5 ⟨rfl, hb⟩
        have K5 := hide (And.intro (K4.out.1.step hb) (K4.out.2.below hb))
        refine hK.out _ _ K5.out.1 ?_
        clear hK K K4 hb
        clear w4
        refine anyC_ready (rs := [4]) (by kernel_rfl) (by simp) ?_
        refine AllC.cons (by simp only [List.getElem?_toArray, List.getElem?_cons_succ, List.getElem?_cons_zero]; exact rfl) (fun K hK => ?_) AllC.nil
        go_simp
        have K6 := hide (And.intro (K5.out.1.step (kept_alloc (kept_refl _) (.cells #[.int .i64 1, .int .i64 2, .int .i64 0, .int .i64 0, .int .i64 0, .int .i64 0, .int .i64 0, .int .i64 0, .int .i64 3, .int .i64 1, .int .i64 5, .int .i64 0, .int .i64 0, .int .i64 0, .int .i64 0, .int .i64 0] 25))) (K5.out.2.more 25 #[.int .i64 1, .int .i64 2, .int .i64 0, .int .i64 0, .int .i64 0, .int .i64 0, .int .i64 0, .int .i64 0, .int .i64 3, .int .i64 1, .int .i64 5, .int .i64 0, .int .i64 0, .int .i64 0, .int .i64 0, .int .i64 0]))
        refine hK.out _ _ K6.out.1 ?_
        clear hK K K5
        generalize World.alloc w5 _ = w6 at K6 ⊢
        generalize w5.heap.size = g4 at K6 ⊢
        clear w5
        refine anyC_ready (rs := [5]) (by kernel_rfl) (by simp) ?_
        refine AllC.cons (by simp only [List.getElem?_toArray, List.getElem?_cons_succ, List.getElem?_cons_zero]; exact rfl) (fun K hK => ?_) AllC.nil
        go_simp
        refine (join_runs K6.out.2 g4 (by simp)).mono ?_
        rintro e w7 ⟨rfl, hb⟩
        have K7 := hide (And.intro (K6.out.1.step hb) (K6.out.2.below hb))
        refine hK.out _ _ K7.out.1 ?_
        clear hK K K6 hb
        clear w6
        refine anyC_ready (rs := [7]) (by kernel_rfl) (by simp) ?_
        refine AllC.cons (by simp only [List.getElem?_toArray, List.getElem?_cons_succ, List.getElem?_cons_zero]; exact rfl) (fun K hK => ?_) AllC.nil
        go_simp
        refine (at2_rows K7.out.2 3 2 5 g6 (by simp)).mono ?_
        rintro e w8 ⟨rfl, hb⟩
        have K8 := hide (And.intro (K7.out.1.step hb) (K7.out.2.below hb))
        refine hK.out _ _ K8.out.1 ?_
        clear hK K K7 hb
        clear w7
        refine anyC_ready (rs := [8]) (by kernel_rfl) (by simp) ?_
        refine AllC.cons (by simp only [List.getElem?_toArray, List.getElem?_cons_succ, List.getElem?_cons_zero]; exact rfl) (fun K hK => ?_) AllC.nil
        go_simp
        refine hK.out _ _ K8.out.1 ?_
        clear hK K
        exact anyC_done (by kernel_rfl) ⟨K8.out.1, _, _, _, _, rfl⟩
      refine AllC.cons (by simp only [List.getElem?_toArray, List.getElem?_cons_succ, List.getElem?_cons_zero]; exact rfl) (fun K hK => ?_) AllC.nil
      go_simp
      have K2 := hide (And.intro (K1.out.1.step (kept_alloc (kept_refl _) (.cells #[.int .i64 2, .int .i64 5] 3))) (K1.out.2.more 3 #[.int .i64 2, .int .i64 5]))
      refine hK.out _ _ K2.out.1 ?_
      clear hK K K1
      generalize World.alloc w1 _ = w2 at K2 ⊢
      generalize w1.heap.size = g6 at K2 ⊢
      clear w1
      refine anyC_ready (rs := [0]) (by kernel_rfl) (by simp) ?_
      refine AllC.cons (by simp only [List.getElem?_toArray, List.getElem?_cons_zero]; exact rfl) (fun K hK => ?_) AllC.nil
      go_simp
      have K3 := hide (And.intro (K2.out.1.step (kept_alloc (kept_refl _) (.cells #[.int .i64 2, .int .i64 0] 3))) (K2.out.2.more 3 #[.int .i64 2, .int .i64 0]))
      refine hK.out _ _ K3.out.1 ?_
      clear hK K K2
      generalize World.alloc w2 _ = w3 at K3 ⊢
      generalize w2.heap.size = g0 at K3 ⊢
      clear w2
      refine anyC_ready (rs := [1]) (by kernel_rfl) (by simp) ?_
      refine AllC.cons (by simp only [List.getElem?_toArray, List.getElem?_cons_succ, List.getElem?_cons_zero]; exact rfl) (fun K hK => ?_) AllC.nil
      go_simp
      refine (at2_rows K3.out.2 1 2 0 g0 (by simp)).mono ?_
      rintro e w4 ⟨rfl, hb⟩
      have K4 := hide (And.intro (K3.out.1.step hb) (K3.out.2.below hb))
      refine hK.out _ _ K4.out.1 ?_
      clear hK K K3 hb
      clear w3
      refine anyC_ready (rs := [3]) (by kernel_rfl) (by simp) ?_
      refine AllC.cons (by simp only [List.getElem?_toArray, List.getElem?_cons_succ, List.getElem?_cons_zero]; exact rfl) (fun K hK => ?_) AllC.nil
      go_simp
      refine (at2_rows K4.out.2 3 1 5 g2x (by simp)).mono ?_
      rintro e w5 ⟨rfl, hb⟩
      have K5 := hide (And.intro (K4.out.1.step hb) (K4.out.2.below hb))
      refine hK.out _ _ K5.out.1 ?_
      clear hK K K4 hb
      clear w4
      refine anyC_ready (rs := [4]) (by kernel_rfl) (by simp) ?_
      refine AllC.cons (by simp only [List.getElem?_toArray, List.getElem?_cons_succ, List.getElem?_cons_zero]; exact rfl) (fun K hK => ?_) AllC.nil
      go_simp
      have K6 := hide (And.intro (K5.out.1.step (kept_alloc (kept_refl _) (.cells #[.int .i64 1, .int .i64 2, .int .i64 0, .int .i64 0, .int .i64 0, .int .i64 0, .int .i64 0, .int .i64 0, .int .i64 3, .int .i64 1, .int .i64 5, .int .i64 0, .int .i64 0, .int .i64 0, .int .i64 0, .int .i64 0] 25))) (K5.out.2.more 25 #[.int .i64 1, .int .i64 2, .int .i64 0, .int .i64 0, .int .i64 0, .int .i64 0, .int .i64 0, .int .i64 0, .int .i64 3, .int .i64 1, .int .i64 5, .int .i64 0, .int .i64 0, .int .i64 0, .int .i64 0, .int .i64 0]))
      refine hK.out _ _ K6.out.1 ?_
      clear hK K K5
      generalize World.alloc w5 _ = w6 at K6 ⊢
      generalize w5.heap.size = g4 at K6 ⊢
      clear w5
      refine anyC_ready (rs := [5]) (by kernel_rfl) (by simp) ?_
      refine AllC.cons (by simp only [List.getElem?_toArray, List.getElem?_cons_succ, List.getElem?_cons_zero]; exact rfl) (fun K hK => ?_) AllC.nil
      go_simp
      refine (join_runs K6.out.2 g4 (by simp)).mono ?_
      rintro e w7 ⟨rfl, hb⟩
      have K7 := hide (And.intro (K6.out.1.step hb) (K6.out.2.below hb))
      refine hK.out _ _ K7.out.1 ?_
      clear hK K K6 hb
      clear w6
      refine anyC_ready (rs := [7]) (by kernel_rfl) (by simp) ?_
      refine AllC.cons (by simp only [List.getElem?_toArray, List.getElem?_cons_succ, List.getElem?_cons_zero]; exact rfl) (fun K hK => ?_) AllC.nil
      go_simp
      refine (at2_rows K7.out.2 3 2 5 g6 (by simp)).mono ?_
      rintro e w8 ⟨rfl, hb⟩
      have K8 := hide (And.intro (K7.out.1.step hb) (K7.out.2.below hb))
      refine hK.out _ _ K8.out.1 ?_
      clear hK K K7 hb
      clear w7
      refine anyC_ready (rs := [8]) (by kernel_rfl) (by simp) ?_
      refine AllC.cons (by simp only [List.getElem?_toArray, List.getElem?_cons_succ, List.getElem?_cons_zero]; exact rfl) (fun K hK => ?_) AllC.nil
      go_simp
      refine hK.out _ _ K8.out.1 ?_
      clear hK K
      exact anyC_done (by kernel_rfl) ⟨K8.out.1, _, _, _, _, rfl⟩
    refine AllC.cons (by simp only [List.getElem?_toArray, List.getElem?_cons_succ, List.getElem?_cons_zero]; exact rfl) (fun K hK => ?_) AllC.nil
    go_simp
    have K1 := hide (And.intro (K0.out.1.step (kept_alloc (kept_refl _) (.cells #[.int .i64 2, .int .i64 5] 3))) (K0.out.2.more 3 #[.int .i64 2, .int .i64 5]))
    refine hK.out _ _ K1.out.1 ?_
    clear hK K K0
    generalize World.alloc w0 _ = w1 at K1 ⊢
    generalize w0.heap.size = g6 at K1 ⊢
    clear w0
    refine anyC_ready (rs := [0, 2]) (by kernel_rfl) (by simp) ?_
    refine AllC.cons (by simp only [List.getElem?_toArray, List.getElem?_cons_zero]; exact rfl) (fun K hK => ?_) ?_
    · go_simp
      have K2 := hide (And.intro (K1.out.1.step (kept_alloc (kept_refl _) (.cells #[.int .i64 2, .int .i64 0] 3))) (K1.out.2.more 3 #[.int .i64 2, .int .i64 0]))
      refine hK.out _ _ K2.out.1 ?_
      clear hK K K1
      generalize World.alloc w1 _ = w2 at K2 ⊢
      generalize w1.heap.size = g0 at K2 ⊢
      clear w1
      refine anyC_ready (rs := [1, 2]) (by kernel_rfl) (by simp) ?_
      refine AllC.cons (by simp only [List.getElem?_toArray, List.getElem?_cons_succ, List.getElem?_cons_zero]; exact rfl) (fun K hK => ?_) ?_
      · go_simp
        refine (at2_rows K2.out.2 1 2 0 g0 (by simp)).mono ?_
        rintro e w3 ⟨rfl, hb⟩
        have K3 := hide (And.intro (K2.out.1.step hb) (K2.out.2.below hb))
        refine hK.out _ _ K3.out.1 ?_
        clear hK K K2 hb
        clear w2
        refine anyC_ready (rs := [2]) (by kernel_rfl) (by simp) ?_
        refine AllC.cons (by simp only [List.getElem?_toArray, List.getElem?_cons_succ, List.getElem?_cons_zero]; exact rfl) (fun K hK => ?_) AllC.nil
        go_simp
        have K4 := hide (And.intro (K3.out.1.step (kept_alloc (kept_refl _) (.cells #[.int .i64 1, .int .i64 5] 3))) (K3.out.2.more 3 #[.int .i64 1, .int .i64 5]))
        refine hK.out _ _ K4.out.1 ?_
        clear hK K K3
        generalize World.alloc w3 _ = w4 at K4 ⊢
        generalize w3.heap.size = g2x at K4 ⊢
        clear w3
        refine anyC_ready (rs := [3]) (by kernel_rfl) (by simp) ?_
        refine AllC.cons (by simp only [List.getElem?_toArray, List.getElem?_cons_succ, List.getElem?_cons_zero]; exact rfl) (fun K hK => ?_) AllC.nil
        go_simp
        refine (at2_rows K4.out.2 3 1 5 g2x (by simp)).mono ?_
        rintro e w5 ⟨rfl, hb⟩
        have K5 := hide (And.intro (K4.out.1.step hb) (K4.out.2.below hb))
        refine hK.out _ _ K5.out.1 ?_
        clear hK K K4 hb
        clear w4
        refine anyC_ready (rs := [4]) (by kernel_rfl) (by simp) ?_
        refine AllC.cons (by simp only [List.getElem?_toArray, List.getElem?_cons_succ, List.getElem?_cons_zero]; exact rfl) (fun K hK => ?_) AllC.nil
        go_simp
        have K6 := hide (And.intro (K5.out.1.step (kept_alloc (kept_refl _) (.cells #[.int .i64 1, .int .i64 2, .int .i64 0, .int .i64 0, .int .i64 0, .int .i64 0, .int .i64 0, .int .i64 0, .int .i64 3, .int .i64 1, .int .i64 5, .int .i64 0, .int .i64 0, .int .i64 0, .int .i64 0, .int .i64 0] 25))) (K5.out.2.more 25 #[.int .i64 1, .int .i64 2, .int .i64 0, .int .i64 0, .int .i64 0, .int .i64 0, .int .i64 0, .int .i64 0, .int .i64 3, .int .i64 1, .int .i64 5, .int .i64 0, .int .i64 0, .int .i64 0, .int .i64 0, .int .i64 0]))
        refine hK.out _ _ K6.out.1 ?_
        clear hK K K5
        generalize World.alloc w5 _ = w6 at K6 ⊢
        generalize w5.heap.size = g4 at K6 ⊢
        clear w5
        refine anyC_ready (rs := [5]) (by kernel_rfl) (by simp) ?_
        refine AllC.cons (by simp only [List.getElem?_toArray, List.getElem?_cons_succ, List.getElem?_cons_zero]; exact rfl) (fun K hK => ?_) AllC.nil
        go_simp
        refine (join_runs K6.out.2 g4 (by simp)).mono ?_
        rintro e w7 ⟨rfl, hb⟩
        have K7 := hide (And.intro (K6.out.1.step hb) (K6.out.2.below hb))
        refine hK.out _ _ K7.out.1 ?_
        clear hK K K6 hb
        clear w6
        refine anyC_ready (rs := [7]) (by kernel_rfl) (by simp) ?_
        refine AllC.cons (by simp only [List.getElem?_toArray, List.getElem?_cons_succ, List.getElem?_cons_zero]; exact rfl) (fun K hK => ?_) AllC.nil
        go_simp
        refine (at2_rows K7.out.2 3 2 5 g6 (by simp)).mono ?_
        rintro e w8 ⟨rfl, hb⟩
        have K8 := hide (And.intro (K7.out.1.step hb) (K7.out.2.below hb))
        refine hK.out _ _ K8.out.1 ?_
        clear hK K K7 hb
        clear w7
        refine anyC_ready (rs := [8]) (by kernel_rfl) (by simp) ?_
        refine AllC.cons (by simp only [List.getElem?_toArray, List.getElem?_cons_succ, List.getElem?_cons_zero]; exact rfl) (fun K hK => ?_) AllC.nil
        go_simp
        refine hK.out _ _ K8.out.1 ?_
        clear hK K
        exact anyC_done (by kernel_rfl) ⟨K8.out.1, _, _, _, _, rfl⟩
      refine AllC.cons (by simp only [List.getElem?_toArray, List.getElem?_cons_succ, List.getElem?_cons_zero]; exact rfl) (fun K hK => ?_) AllC.nil
      go_simp
      have K3 := hide (And.intro (K2.out.1.step (kept_alloc (kept_refl _) (.cells #[.int .i64 1, .int .i64 5] 3))) (K2.out.2.more 3 #[.int .i64 1, .int .i64 5]))
      refine hK.out _ _ K3.out.1 ?_
      clear hK K K2
      generalize World.alloc w2 _ = w3 at K3 ⊢
      generalize w2.heap.size = g2x at K3 ⊢
      clear w2
      refine anyC_ready (rs := [1]) (by kernel_rfl) (by simp) ?_
      refine AllC.cons (by simp only [List.getElem?_toArray, List.getElem?_cons_succ, List.getElem?_cons_zero]; exact rfl) (fun K hK => ?_) AllC.nil
      go_simp
      refine (at2_rows K3.out.2 1 2 0 g0 (by simp)).mono ?_
      rintro e w4 ⟨rfl, hb⟩
      have K4 := hide (And.intro (K3.out.1.step hb) (K3.out.2.below hb))
      refine hK.out _ _ K4.out.1 ?_
      clear hK K K3 hb
      clear w3
      refine anyC_ready (rs := [3]) (by kernel_rfl) (by simp) ?_
      refine AllC.cons (by simp only [List.getElem?_toArray, List.getElem?_cons_succ, List.getElem?_cons_zero]; exact rfl) (fun K hK => ?_) AllC.nil
      go_simp
      refine (at2_rows K4.out.2 3 1 5 g2x (by simp)).mono ?_
      rintro e w5 ⟨rfl, hb⟩
      have K5 := hide (And.intro (K4.out.1.step hb) (K4.out.2.below hb))
      refine hK.out _ _ K5.out.1 ?_
      clear hK K K4 hb
      clear w4
      refine anyC_ready (rs := [4]) (by kernel_rfl) (by simp) ?_
      refine AllC.cons (by simp only [List.getElem?_toArray, List.getElem?_cons_succ, List.getElem?_cons_zero]; exact rfl) (fun K hK => ?_) AllC.nil
      go_simp
      have K6 := hide (And.intro (K5.out.1.step (kept_alloc (kept_refl _) (.cells #[.int .i64 1, .int .i64 2, .int .i64 0, .int .i64 0, .int .i64 0, .int .i64 0, .int .i64 0, .int .i64 0, .int .i64 3, .int .i64 1, .int .i64 5, .int .i64 0, .int .i64 0, .int .i64 0, .int .i64 0, .int .i64 0] 25))) (K5.out.2.more 25 #[.int .i64 1, .int .i64 2, .int .i64 0, .int .i64 0, .int .i64 0, .int .i64 0, .int .i64 0, .int .i64 0, .int .i64 3, .int .i64 1, .int .i64 5, .int .i64 0, .int .i64 0, .int .i64 0, .int .i64 0, .int .i64 0]))
      refine hK.out _ _ K6.out.1 ?_
      clear hK K K5
      generalize World.alloc w5 _ = w6 at K6 ⊢
      generalize w5.heap.size = g4 at K6 ⊢
      clear w5
      refine anyC_ready (rs := [5]) (by kernel_rfl) (by simp) ?_
      refine AllC.cons (by simp only [List.getElem?_toArray, List.getElem?_cons_succ, List.getElem?_cons_zero]; exact rfl) (fun K hK => ?_) AllC.nil
      go_simp
      refine (join_runs K6.out.2 g4 (by simp)).mono ?_
      rintro e w7 ⟨rfl, hb⟩
      have K7 := hide (And.intro (K6.out.1.step hb) (K6.out.2.below hb))
      refine hK.out _ _ K7.out.1 ?_
      clear hK K K6 hb
      clear w6
      refine anyC_ready (rs := [7]) (by kernel_rfl) (by simp) ?_
      refine AllC.cons (by simp only [List.getElem?_toArray, List.getElem?_cons_succ, List.getElem?_cons_zero]; exact rfl) (fun K hK => ?_) AllC.nil
      go_simp
      refine (at2_rows K7.out.2 3 2 5 g6 (by simp)).mono ?_
      rintro e w8 ⟨rfl, hb⟩
      have K8 := hide (And.intro (K7.out.1.step hb) (K7.out.2.below hb))
      refine hK.out _ _ K8.out.1 ?_
      clear hK K K7 hb
      clear w7
      refine anyC_ready (rs := [8]) (by kernel_rfl) (by simp) ?_
      refine AllC.cons (by simp only [List.getElem?_toArray, List.getElem?_cons_succ, List.getElem?_cons_zero]; exact rfl) (fun K hK => ?_) AllC.nil
      go_simp
      refine hK.out _ _ K8.out.1 ?_
      clear hK K
      exact anyC_done (by kernel_rfl) ⟨K8.out.1, _, _, _, _, rfl⟩
    refine AllC.cons (by simp only [List.getElem?_toArray, List.getElem?_cons_succ, List.getElem?_cons_zero]; exact rfl) (fun K hK => ?_) AllC.nil
    go_simp
    have K2 := hide (And.intro (K1.out.1.step (kept_alloc (kept_refl _) (.cells #[.int .i64 1, .int .i64 5] 3))) (K1.out.2.more 3 #[.int .i64 1, .int .i64 5]))
    refine hK.out _ _ K2.out.1 ?_
    clear hK K K1
    generalize World.alloc w1 _ = w2 at K2 ⊢
    generalize w1.heap.size = g2x at K2 ⊢
    clear w1
    refine anyC_ready (rs := [0]) (by kernel_rfl) (by simp) ?_
    refine AllC.cons (by simp only [List.getElem?_toArray, List.getElem?_cons_zero]; exact rfl) (fun K hK => ?_) AllC.nil
    go_simp
    have K3 := hide (And.intro (K2.out.1.step (kept_alloc (kept_refl _) (.cells #[.int .i64 2, .int .i64 0] 3))) (K2.out.2.more 3 #[.int .i64 2, .int .i64 0]))
    refine hK.out _ _ K3.out.1 ?_
    clear hK K K2
    generalize World.alloc w2 _ = w3 at K3 ⊢
    generalize w2.heap.size = g0 at K3 ⊢
    clear w2
    refine anyC_ready (rs := [1]) (by kernel_rfl) (by simp) ?_
    refine AllC.cons (by simp only [List.getElem?_toArray, List.getElem?_cons_succ, List.getElem?_cons_zero]; exact rfl) (fun K hK => ?_) AllC.nil
    go_simp
    refine (at2_rows K3.out.2 1 2 0 g0 (by simp)).mono ?_
    rintro e w4 ⟨rfl, hb⟩
    have K4 := hide (And.intro (K3.out.1.step hb) (K3.out.2.below hb))
    refine hK.out _ _ K4.out.1 ?_
    clear hK K K3 hb
    clear w3
    refine anyC_ready (rs := [3]) (by kernel_rfl) (by simp) ?_
    refine AllC.cons (by simp only [List.getElem?_toArray, List.getElem?_cons_succ, List.getElem?_cons_zero]; exact rfl) (fun K hK => ?_) AllC.nil
    go_simp
    refine (at2_rows K4.out.2 3 1 5 g2x (by simp)).mono ?_
    rintro e w5 ⟨rfl, hb⟩
    have K5 := hide (And.intro (K4.out.1.step hb) (K4.out.2.below hb))
    refine hK.out _ _ K5.out.1 ?_
    clear hK K K4 hb
    clear w4
    refine anyC_ready (rs := [4]) (by kernel_rfl) (by simp) ?_
    refine AllC.cons (by simp only [List.getElem?_toArray, List.getElem?_cons_succ, List.getElem?_cons_zero]; exact rfl) (fun K hK => ?_) AllC.nil
    go_simp
    have K6 := hide (And.intro (K5.out.1.step (kept_alloc (kept_refl _) (.cells #[.int .i64 1, .int .i64 2, .int .i64 0, .int .i64 0, .int .i64 0, .int .i64 0, .int .i64 0, .int .i64 0, .int .i64 3, .int .i64 1, .int .i64 5, .int .i64 0, .int .i64 0, .int .i64 0, .int .i64 0, .int .i64 0] 25))) (K5.out.2.more 25 #[.int .i64 1, .int .i64 2, .int .i64 0, .int .i64 0, .int .i64 0, .int .i64 0, .int .i64 0, .int .i64 0, .int .i64 3, .int .i64 1, .int .i64 5, .int .i64 0, .int .i64 0, .int .i64 0, .int .i64 0, .int .i64 0]))
    refine hK.out _ _ K6.out.1 ?_
    clear hK K K5
    generalize World.alloc w5 _ = w6 at K6 ⊢
    generalize w5.heap.size = g4 at K6 ⊢
    clear w5
    refine anyC_ready (rs := [5]) (by kernel_rfl) (by simp) ?_
    refine AllC.cons (by simp only [List.getElem?_toArray, List.getElem?_cons_succ, List.getElem?_cons_zero]; exact rfl) (fun K hK => ?_) AllC.nil
    go_simp
    refine (join_runs K6.out.2 g4 (by simp)).mono ?_
    rintro e w7 ⟨rfl, hb⟩
    have K7 := hide (And.intro (K6.out.1.step hb) (K6.out.2.below hb))
    refine hK.out _ _ K7.out.1 ?_
    clear hK K K6 hb
    clear w6
    refine anyC_ready (rs := [7]) (by kernel_rfl) (by simp) ?_
    refine AllC.cons (by simp only [List.getElem?_toArray, List.getElem?_cons_succ, List.getElem?_cons_zero]; exact rfl) (fun K hK => ?_) AllC.nil
    go_simp
    refine (at2_rows K7.out.2 3 2 5 g6 (by simp)).mono ?_
    rintro e w8 ⟨rfl, hb⟩
    have K8 := hide (And.intro (K7.out.1.step hb) (K7.out.2.below hb))
    refine hK.out _ _ K8.out.1 ?_
    clear hK K K7 hb
    clear w7
    refine anyC_ready (rs := [8]) (by kernel_rfl) (by simp) ?_
    refine AllC.cons (by simp only [List.getElem?_toArray, List.getElem?_cons_succ, List.getElem?_cons_zero]; exact rfl) (fun K hK => ?_) AllC.nil
    go_simp
    refine hK.out _ _ K8.out.1 ?_
    clear hK K
    exact anyC_done (by kernel_rfl) ⟨K8.out.1, _, _, _, _, rfl⟩
end Go.Proofs.Ytpngcocmjbkfgaa
