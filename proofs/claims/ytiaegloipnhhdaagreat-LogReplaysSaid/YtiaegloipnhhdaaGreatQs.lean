/- Chapter 16's runs. No condition. -/
import Derived.Test.YtiaegloipnhhdaaGreatQo
import Derived.Test.YtiaegloipnhhdaaGreatQp
import Derived.Test.YtiaegloipnhhdaaGreatQr
import Derived.Test.YtiaegloipnhhdaaGreatQa
import Derived.Test.YtiaegloipnhhdaaGreatQm
namespace Go.Proofs.YtiaegloipnhhdaaGreat
set_option maxRecDepth 100000
open Go.RowKit Go.Maps
/-! ### What the runs come to -/
def x1R : Lw := setL zeroLw (1, 2) { zeroCl with st := 1 }
def x2R : Lw := setL x1R (1, 2) { zeroCl with st := 3 }
def x3R : Lw := trimL x2R [0, 5, 0, 0, 0, 0, 0]
/-- A Log that the call has made. -/
structure Rl (W w : World) (g b : Nat) (x : Lw) : Prop where
  low : Below W.heap.size W w
  pg : Pg w g b x
  hg : W.heap.size ≤ g
  hb : W.heap.size ≤ b
section
variable {W w w' : World} {g b : Nat} {x y : Lw}
theorem Rl.below (h : Rl W w g b x) (k : Below w.heap.size w w') : Rl W w' g b x := ⟨kept_trans h.low k, h.pg.below k, h.hg, h.hb⟩
theorem Rl.kq {o : Nat → Prop} (h : Rl W w g b x) (hp : Pg w' g b y) (k : Kq o w w') (ho : ∀ j, j < W.heap.size → ¬ o j) : Rl W w' g b y := ⟨k.below h.low h.low.size ho, hp, h.hg, h.hb⟩
theorem Rl.set (h : Rl W w g b x) (hp : Pg w' g b y) (k : Kq (fun k => k = b) w w') : Rl W w' g b y := h.kq hp k (fun j hj e => by have := h.hb; omega)
theorem Rl.trim (h : Rl W w g b x) (hp : Pg w' g b y) (k : Kq (fun k => k = g ∨ k = b) w w') : Rl W w' g b y := h.kq hp k (fun j hj e => by have := h.hb; have := h.hg; omega)
end
theorem trim_zeroLw : trimL zeroLw zero7 = zeroLw := trim_zero Kl.zero
theorem lat_any (r s : Int) (w : World) : Calls Tryz.prog 36 #[.int .i64 r, .int .i64 s] w fun e w' => e = .returned (.agg #[.int .i64 r, .int .i64 s]) ∧ Below w.heap.size w w' := by
  have R := hide (Row.new w 30 #[.int .i64 0, .int .i64 0])
  have HB := hide (kept_alloc (kept_refl w) (.cells #[.int .i64 0, .int .i64 0] 30))
  go_enter Tryz.func36, Tryz.ntmps36
  go_upto_region 1 with (fail)
  generalize w.alloc (.cells #[.int .i64 0, .int .i64 0] 30) = w1 at R HB ⊢
  have c0 : w1.cell? ⟨w.heap.size, 0, none⟩ = some (.int .i64 0) := R.out.cell 0
  have c1 : w1.cell? ⟨w.heap.size, 1, none⟩ = some (.int .i64 0) := R.out.cell 1
  have f0 := R.out.free 0
  have f1 := R.out.free 1
  go_wp2
  have z : Row ((w1.setCell ⟨w.heap.size, 0, none⟩ (.int .i64 r)).setCell ⟨w.heap.size, 1, none⟩ (.int .i64 s)) w.heap.size 30 #[.int .i64 r, .int .i64 s] := (R.out.put 0 (.int .i64 r)).put 1 (.int .i64 s)
  exact bodyPost_ret (results_cell_row Tryz.results36 _ _ w.heap.size 30 _ _ _ rfl z Tryz.underlying30 rfl (by kernel_rfl)) rfl ⟨rfl, (HB.out.setCell (Nat.le_refl _) _).setCell (Nat.le_refl _) _⟩
theorem new1 (w : World) : Calls Tryz.prog 5 #[.agg #[.int .i64 0, .int .i64 0, .int .i64 0, .int .i64 0, .int .i64 0, .int .i64 0, .int .i64 0]] w fun e w' => ∃ g b, e = .returned (.pointer (some ⟨g, 0, none⟩)) ∧ Rl w w' g b zeroLw := by
  refine (pnew_any (d := zero7) rfl w).mono ?_
  rintro e w' ⟨g, b, rfl, hp, hb, h1, h2⟩
  rw [trim_zeroLw] at hp
  exact ⟨g, b, rfl, ⟨hb, hp, h1, h2⟩⟩
theorem set1 {g b : Nat} {w : World} (h : Pg w g b zeroLw) : Calls Tryz.prog 7 #[.pointer (some ⟨g, 0, none⟩), .agg #[.int .i64 1, .int .i64 2], .agg #[.int .i64 1, .int .i64 0, .int .i64 0, .int .i64 0, .int .i64 0, .int .i64 0, .int .i64 0, .int .i64 0, .string ⟨#[]⟩, .string ⟨#[]⟩, .string ⟨#[]⟩, .string ⟨#[]⟩, .int .i64 0, .int .i64 0, .int .i64 0, .int .i64 0, .int .i64 0, .int .i64 0, .int .i64 0, .int .i64 0, .bool false]] w fun e w' => e = .returned (.bool true) ∧ Pg w' g b x1R ∧ Kq (fun k => k = b) w w' := by
  have h1 := pset_any (c := { zeroCl with st := 1 }) h rfl (by decide) 1 2
  unfold SetP at h1
  rw [show maySet zeroLw (1, 2) { zeroCl with st := 1 } = true by kernel_rfl] at h1
  exact h1
theorem len_x1 : x1R.k.length = 1 := by kernel_rfl
theorem len_x2 : x2R.k.length = 1 := by kernel_rfl
theorem set2 {g b : Nat} {w : World} (h : Pg w g b x1R) : Calls Tryz.prog 7 #[.pointer (some ⟨g, 0, none⟩), .agg #[.int .i64 1, .int .i64 2], .agg #[.int .i64 3, .int .i64 0, .int .i64 0, .int .i64 0, .int .i64 0, .int .i64 0, .int .i64 0, .int .i64 0, .string ⟨#[]⟩, .string ⟨#[]⟩, .string ⟨#[]⟩, .string ⟨#[]⟩, .int .i64 0, .int .i64 0, .int .i64 0, .int .i64 0, .int .i64 0, .int .i64 0, .int .i64 0, .int .i64 0, .bool false]] w fun e w' => e = .returned (.bool true) ∧ Pg w' g b x2R ∧ Kq (fun k => k = b) w w' := by
  have h1 := pset_any (c := { zeroCl with st := 3 }) h rfl (by rw [len_x1]; decide) 1 2
  unfold SetP at h1
  rw [show maySet x1R (1, 2) { zeroCl with st := 3 } = true by kernel_rfl] at h1
  exact h1
theorem set3 {g b : Nat} {w : World} (h : Pg w g b x2R) : Calls Tryz.prog 7 #[.pointer (some ⟨g, 0, none⟩), .agg #[.int .i64 1, .int .i64 2], .agg #[.int .i64 2, .int .i64 0, .int .i64 0, .int .i64 0, .int .i64 0, .int .i64 0, .int .i64 0, .int .i64 0, .string ⟨#[]⟩, .string ⟨#[]⟩, .string ⟨#[]⟩, .string ⟨#[]⟩, .int .i64 0, .int .i64 0, .int .i64 0, .int .i64 0, .int .i64 0, .int .i64 0, .int .i64 0, .int .i64 0, .bool false]] w fun e w' => e = .returned (.bool false) ∧ Pg w' g b x2R ∧ Kq (fun k => k = b) w w' := by
  have h1 := pset_any (c := { zeroCl with st := 2 }) h rfl (by rw [len_x2]; decide) 1 2
  have hm : maySet x2R (1, 2) { zeroCl with st := 2 } = false := by kernel_rfl
  unfold SetP at h1
  rw [set_no' hm, hm] at h1
  exact h1
theorem top2 {g b : Nat} {w : World} (h : Pg w g b x2R) : Calls Tryz.prog 14 #[.pointer (some ⟨g, 0, none⟩)] w fun e w' => e = .returned (.agg #[.int .i64 0, .int .i64 2, .int .i64 0, .int .i64 0, .int .i64 0, .int .i64 0, .int .i64 0]) ∧ Below w.heap.size w w' := by
  have h1 := ptop_any h
  rw [show topL x2R = [0, 2, 0, 0, 0, 0, 0] by kernel_rfl] at h1
  exact h1
theorem trim3 {g b : Nat} {w : World} (h : Pg w g b x2R) : Calls Tryz.prog 20 #[.pointer (some ⟨g, 0, none⟩), .agg #[.int .i64 0, .int .i64 5, .int .i64 0, .int .i64 0, .int .i64 0, .int .i64 0, .int .i64 0]] w fun e w' => e = .returned (.tuple #[]) ∧ Pg w' g b x3R ∧ Kq (fun k => k = g ∨ k = b) w w' :=
  ptrim_any (u := [0, 5, 0, 0, 0, 0, 0]) h rfl
theorem nil_x3 : x3R.k = [] := by
  have h : x3R.k.length = 0 := by kernel_rfl
  exact List.eq_nil_of_length_eq_zero h
theorem list3 {g b : Nat} {w : World} (h : Pg w g b x3R) : Calls Tryz.prog 11 #[.pointer (some ⟨g, 0, none⟩)] w fun e w' => e = .returned (.slice none 0 0) ∧ Below w.heap.size w w' := by
  refine (plist_any h (.inl nil_x3) (by rw [nil_x3]; decide)).mono ?_
  rintro e w' ⟨v, rfl, hm⟩
  have h0 := hm.2.1.2 (by rw [nil_x3]; rfl)
  subst h0
  exact ⟨rfl, hm.2.2⟩
theorem gone5 {g b : Nat} {w : World} (h : Pg w g b x3R) : Calls Tryz.prog 22 #[.pointer (some ⟨g, 0, none⟩), .agg #[.int .i64 1, .int .i64 5]] w fun e w' => e = .returned (.bool true) ∧ Below w.heap.size w w' := by
  have h1 := pgone_any h 1 5
  rw [show goneL x3R.d (1, 5) = true by kernel_rfl] at h1
  exact h1
theorem gone6 {g b : Nat} {w : World} (h : Pg w g b x3R) : Calls Tryz.prog 22 #[.pointer (some ⟨g, 0, none⟩), .agg #[.int .i64 1, .int .i64 6]] w fun e w' => e = .returned (.bool false) ∧ Below w.heap.size w w' := by
  have h1 := pgone_any h 1 6
  rw [show goneL x3R.d (1, 6) = false by kernel_rfl] at h1
  exact h1
theorem rows_ne {w : World} {g q : Nat} {t u : TypeId} {cs ds : Array Value} (h : Row w g t cs) (k : Row w q u ds) (hn : t ≠ u) : g ≠ q := by
  rintro rfl
  unfold Row at h k
  rw [h] at k
  injection k with k
  injection k with _ e _
  exact hn e
/-- Behind Top. -/
structure Rt (W w : World) (g b : Nat) (x : Lw) (q : Nat) : Prop where
  rl : Rl W w g b x
  r1 : Row w q 26 #[.int .i64 0, .int .i64 2, .int .i64 0, .int .i64 0, .int .i64 0, .int .i64 0, .int .i64 0]
theorem Rt.start {W w : World} {g b : Nat} {x : Lw} (h : Rl W w g b x) : Rt W (w.alloc (.cells #[.int .i64 0, .int .i64 2, .int .i64 0, .int .i64 0, .int .i64 0, .int .i64 0, .int .i64 0] 26)) g b x w.heap.size := ⟨h.below (kept_alloc (kept_refl w) _), Row.new w _ _⟩
theorem Rt.below {W w w' : World} {g b : Nat} {x : Lw} {q : Nat} (h : Rt W w g b x q) (k : Below w.heap.size w w') : Rt W w' g b x q := ⟨h.rl.below k, h.r1.below k h.r1.lt⟩
theorem Rt.trim {W w w' : World} {g b : Nat} {x y : Lw} {q : Nat} (h : Rt W w g b x q) (hp : Pg w' g b y) (k : Kq (fun k => k = g ∨ k = b) w w') : Rt W w' g b y q := by
  have n1 := rows_ne h.rl.pg.row h.r1 (by decide)
  have n2 := h.rl.pg.pm.off h.r1
  exact ⟨h.rl.trim hp k, k.row h.r1 (by omega)⟩
set_option maxHeartbeats 8000000 in
theorem runs_any (w : World) : Calls Tryz.prog 15 #[] w fun e w' => e = .returned (.bool true) ∧ Below w.heap.size w w' := by
  have HNW := hide (fun w => new1 w)
  have hde : ∀ w, (binOp .eql 26 (.agg #[.int .i64 0, .int .i64 2, .int .i64 0, .int .i64 0, .int .i64 0, .int .i64 0, .int .i64 0]) (.agg #[.int .i64 0, .int .i64 2, .int .i64 0, .int .i64 0, .int .i64 0, .int .i64 0, .int .i64 0])).run Tryz.prog w = .ok (.bool true) w := fun _ => by kernel_rfl
  go_enter Tryz.func15, Tryz.ntmps15
  go_upto_region 8 with (first
    | (go_at_call 5; (with_reducible refine (HNW.out _).mono ?_); rintro e w1 ⟨g, b, rfl, hr⟩; have HR := hide hr; clear hr)
    | (go_at_call 36; (with_reducible refine (lat_any _ _ _).mono ?_); rintro e w2 ⟨rfl, hb⟩; replace HR := hide (HR.out.below hb); clear hb)
    | (go_at_call 7; (with_reducible refine (set1 HR.out.pg).mono ?_); rintro e w4 ⟨rfl, hp, hk⟩; replace HR := hide (HR.out.set hp hk); clear hp hk)
    | (go_at_call 7; (with_reducible refine (set2 HR.out.pg).mono ?_); rintro e w5 ⟨rfl, hp, hk⟩; replace HR := hide (HR.out.set hp hk); clear hp hk)
    | (go_at_call 7; (with_reducible refine (set3 HR.out.pg).mono ?_); rintro e w6 ⟨rfl, hp, hk⟩; replace HR := hide (HR.out.set hp hk); clear hp hk)
    | (go_at_call 14; (with_reducible refine (top2 HR.out.pg).mono ?_); rintro e w7 ⟨rfl, hb⟩; replace HR := hide (HR.out.below hb); clear hb))
  replace HR := hide (Rt.start HR.out)
  generalize w7.alloc (.cells #[.int .i64 0, .int .i64 2, .int .i64 0, .int .i64 0, .int .i64 0, .int .i64 0, .int .i64 0] 26) = w8 at HR ⊢
  generalize w7.heap.size = q at HR ⊢
  go_upto_region 9 with (go_at_call 20; (with_reducible refine (trim3 HR.out.rl.pg).mono ?_); rintro e w9 ⟨rfl, hp, hk⟩; replace HR := hide (HR.out.trim hp hk); clear hp hk)
  obtain ⟨d0, d1, d2, d3, d4, d5, d6⟩ : w9.cell? ⟨q, 0, none⟩ = some (.int .i64 0) ∧ w9.cell? ⟨q, 1, none⟩ = some (.int .i64 2) ∧ w9.cell? ⟨q, 2, none⟩ = some (.int .i64 0) ∧ w9.cell? ⟨q, 3, none⟩ = some (.int .i64 0) ∧ w9.cell? ⟨q, 4, none⟩ = some (.int .i64 0) ∧ w9.cell? ⟨q, 5, none⟩ = some (.int .i64 0) ∧ w9.cell? ⟨q, 6, none⟩ = some (.int .i64 0) := ⟨HR.out.r1.cell 0, HR.out.r1.cell 1, HR.out.r1.cell 2, HR.out.r1.cell 3, HR.out.r1.cell 4, HR.out.r1.cell 5, HR.out.r1.cell 6⟩
  go_wp2_with (first
    | (go_at_call 11; (with_reducible refine (list3 HR.out.rl.pg).mono ?_); rintro e wa ⟨rfl, hb⟩; replace HR := hide (HR.out.below hb); clear hb)
    | (go_at_call 36; (with_reducible refine (lat_any _ _ _).mono ?_); rintro e w2 ⟨rfl, hb⟩; replace HR := hide (HR.out.below hb); clear hb)
    | (go_at_call 22; (with_reducible refine (gone5 HR.out.rl.pg).mono ?_); rintro e w4 ⟨rfl, hb⟩; replace HR := hide (HR.out.below hb); clear hb)
    | (go_at_call 22; (with_reducible refine (gone6 HR.out.rl.pg).mono ?_); rintro e w4 ⟨rfl, hb⟩; replace HR := hide (HR.out.below hb); clear hb))
  go_ret
  exact ⟨rfl, HR.out.rl.low⟩
end Go.Proofs.YtiaegloipnhhdaaGreat
/- How long a log may grow; what a law's loop keeps. No condition: no walk. -/
namespace Go.Proofs.YtiaegloipnhhdaaGreat
set_option maxRecDepth 100000
open Go.RowKit Go.Maps
theorem put_len (l : List Lc) (i : Int × Int) (c : Cl) : (putL l i c).length ≤ l.length + 1 := by
  unfold putL
  split
  · rw [List.length_set]; omega
  · rw [List.length_append, List.length_cons, List.length_take, List.length_drop]
    omega
theorem set_len (x : Lw) (i : Int × Int) (c : Cl) : (setL x i c).k.length ≤ x.k.length + 1 := by
  unfold setL
  split
  · exact put_len x.k i c
  · omega
theorem trim_len (x : Lw) (u : List Int) : (trimL x u).k.length ≤ x.k.length := List.length_filter_le _ _
section
variable {W w w' : World} {g b q : Nat} {x y : Lw} {a : Ga} {c : Cl} {t : TypeId}
theorem GaAt.set (h : GaAt w q a) (hp : Pg w g b x) (k : Kq (fun k => k = b) w w') : GaAt w' q a := ⟨k.row h.r (fun e => hp.pm.off h.r e.symm), h.ok⟩
theorem CeAt.set (h : CeAt w q t c) (hp : Pg w g b x) (k : Kq (fun k => k = b) w w') : CeAt w' q t c := ⟨k.row h.r (fun e => hp.pm.off h.r e.symm), h.l⟩
end
end Go.Proofs.YtiaegloipnhhdaaGreat
