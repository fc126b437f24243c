/- Proved: the law InstOrder returns true. Conditions: none beyond the row's own. -/
import Derived.Test.YtnbknhgfjjgcjaaFrame
import Derived.Test.YtnbknhgfjjgcjaaRuns
import Derived.Test.YtnbknhgfjjgcjaaSp
import Derived.Deep.DeepCutAuto
import Derived.Deep.RegionHeld3
namespace Go.Proofs.Ytnbknhgfjjgcjaa.instOrder
open Go.ChangeShapes Go.WideShapes Go.ChangeAt Go.RowKit
/-- Six pairs in six boxes of the call's own. -/
structure P6 (W w : World) (a1 a2 b1 b2 c1 c2 x1 x2 y1 y2 z1 z2 : Int) : Prop where
  low : Below W.heap.size W w
  a : Pr w (W.heap.size) a1 a2
  b : Pr w (W.heap.size + 1) b1 b2
  c : Pr w (W.heap.size + 1 + 1) c1 c2
  x : Pr w (W.heap.size + 1 + 1 + 1) x1 x2
  y : Pr w (W.heap.size + 1 + 1 + 1 + 1) y1 y2
  z : Pr w (W.heap.size + 1 + 1 + 1 + 1 + 1) z1 z2
theorem P6.step {W w w' : World} {a1 a2 b1 b2 c1 c2 x1 x2 y1 y2 z1 z2 : Int} (h : P6 W w a1 a2 b1 b2 c1 c2 x1 x2 y1 y2 z1 z2) (hb : Below w.heap.size w w') : P6 W w' a1 a2 b1 b2 c1 c2 x1 x2 y1 y2 z1 z2 := ⟨kept_trans h.low hb, h.a.kept hb, h.b.kept hb, h.c.kept hb, h.x.kept hb, h.y.kept hb, h.z.kept hb⟩
theorem P6.drew {W w : World} {a1 a2 b1 b2 c1 c2 x1 x2 y1 y2 z1 z2 : Int} (h : P6 W w a1 a2 b1 b2 c1 c2 x1 x2 y1 y2 z1 z2) : P6 W w.drew a1 a2 b1 b2 c1 c2 x1 x2 y1 y2 z1 z2 := ⟨kept_drewN h.low 1, h.a.drew, h.b.drew, h.c.drew, h.x.drew, h.y.drew, h.z.drew⟩
theorem P6.alloc {W w : World} {a1 a2 b1 b2 c1 c2 x1 x2 y1 y2 z1 z2 : Int} (h : P6 W w a1 a2 b1 b2 c1 c2 x1 x2 y1 y2 z1 z2) (o : Obj) : P6 W (w.alloc o) a1 a2 b1 b2 c1 c2 x1 x2 y1 y2 z1 z2 := h.step ((Below.refl _ _).alloc (Nat.le_refl _) o)
theorem P6.six {W w : World} {a1 a2 b1 b2 c1 c2 x1 x2 y1 y2 z1 z2 : Int} (h : P6 W w a1 a2 b1 b2 c1 c2 x1 x2 y1 y2 z1 z2) : w.cell? ⟨W.heap.size, 0, none⟩ = some (.int .i64 a1) ∧ w.cell? ⟨W.heap.size, 1, none⟩ = some (.int .i64 a2) ∧ w.cell? ⟨W.heap.size + 1, 0, none⟩ = some (.int .i64 b1) ∧ w.cell? ⟨W.heap.size + 1, 1, none⟩ = some (.int .i64 b2) ∧ w.cell? ⟨W.heap.size + 1 + 1, 0, none⟩ = some (.int .i64 c1) ∧ w.cell? ⟨W.heap.size + 1 + 1, 1, none⟩ = some (.int .i64 c2) := ⟨h.a.c0, h.a.c1, h.b.c0, h.b.c1, h.c.c0, h.c.c1⟩
theorem P6.new {W w w' : World} {a1 a2 b1 b2 c1 c2 x1 x2 y1 y2 z1 z2 : Int} {g d : Nat} {l : List (Int × Int)} (h : P6 W w a1 a2 b1 b2 c1 c2 x1 x2 y1 y2 z1 z2) (hS : Set w' g d l) (hg : w.heap.size ≤ g) (hd : w.heap.size ≤ d) (hb : Below w.heap.size w w') : P6 W w' a1 a2 b1 b2 c1 c2 x1 x2 y1 y2 z1 z2 ∧ Kp W w' g d l := ⟨h.step hb, hS, (h.step hb).low, Nat.le_trans h.low.size hg, Nat.le_trans h.low.size hd⟩
theorem Row.on {w w' : World} {g : Nat} {t : TypeId} {cs : Array Value} (h : Row w g t cs) (hb : Below w.heap.size w w') : Row w' g t cs := h.below hb h.lt
theorem Row.new2 (w : World) (o : Obj) (t : TypeId) (cs : Array Value) : Row ((w.alloc o).alloc (.cells cs t)) (w.heap.size + 1) t cs := by have := Row.new (w.alloc o) t cs; rwa [World.size_alloc] at this
theorem P6.start (W : World) (a1 a2 b1 b2 c1 c2 x1 x2 y1 y2 z1 z2 : Int) (t u : TypeId) : P6 W ((((((W.alloc (.cells #[.int .i64 a1, .int .i64 a2] t)).alloc (.cells #[.int .i64 b1, .int .i64 b2] t)).alloc (.cells #[.int .i64 c1, .int .i64 c2] t)).alloc (.cells #[.int .i64 x1, .int .i64 x2] u)).alloc (.cells #[.int .i64 y1, .int .i64 y2] u)).alloc (.cells #[.int .i64 z1, .int .i64 z2] u)) a1 a2 b1 b2 c1 c2 x1 x2 y1 y2 z1 z2 := by
  have h0 := Pr.new W a1 a2 t
  have h1 := Pr.new (W.alloc (.cells #[.int .i64 a1, .int .i64 a2] t)) b1 b2 t
  have h2 := Pr.new ((W.alloc (.cells #[.int .i64 a1, .int .i64 a2] t)).alloc (.cells #[.int .i64 b1, .int .i64 b2] t)) c1 c2 t
  have h3 := Pr.new (((W.alloc (.cells #[.int .i64 a1, .int .i64 a2] t)).alloc (.cells #[.int .i64 b1, .int .i64 b2] t)).alloc (.cells #[.int .i64 c1, .int .i64 c2] t)) x1 x2 u
  have h4 := Pr.new ((((W.alloc (.cells #[.int .i64 a1, .int .i64 a2] t)).alloc (.cells #[.int .i64 b1, .int .i64 b2] t)).alloc (.cells #[.int .i64 c1, .int .i64 c2] t)).alloc (.cells #[.int .i64 x1, .int .i64 x2] u)) y1 y2 u
  have h5 := Pr.new (((((W.alloc (.cells #[.int .i64 a1, .int .i64 a2] t)).alloc (.cells #[.int .i64 b1, .int .i64 b2] t)).alloc (.cells #[.int .i64 c1, .int .i64 c2] t)).alloc (.cells #[.int .i64 x1, .int .i64 x2] u)).alloc (.cells #[.int .i64 y1, .int .i64 y2] u)) z1 z2 u
  simp only [World.size_alloc] at h1 h2 h3 h4 h5
  exact ⟨kept_alloc (kept_alloc (kept_alloc (kept_alloc (kept_alloc (kept_alloc (kept_refl W) _) _) _) _) _) _, (((((h0.alloc _).alloc _).alloc _).alloc _).alloc _), ((((h1.alloc _).alloc _).alloc _).alloc _), (((h2.alloc _).alloc _).alloc _), ((h3.alloc _).alloc _), (h4.alloc _), h5⟩
/-- The six pairs and the two sets. -/
structure Q8 (W w : World) (a1 a2 b1 b2 c1 c2 x1 x2 y1 y2 z1 z2 : Int) (g1 d1 g2 d2 : Nat) (l : List (Int × Int)) : Prop where
  p : P6 W w a1 a2 b1 b2 c1 c2 x1 x2 y1 y2 z1 z2
  s : Kp W w g1 d1 l
  t : Kp W w g2 d2 l
theorem Q8.step {W w w' : World} {a1 a2 b1 b2 c1 c2 x1 x2 y1 y2 z1 z2 : Int} {g1 d1 g2 d2 : Nat} {l : List (Int × Int)} (h : Q8 W w a1 a2 b1 b2 c1 c2 x1 x2 y1 y2 z1 z2 g1 d1 g2 d2 l) (hb : Below w.heap.size w w') : Q8 W w' a1 a2 b1 b2 c1 c2 x1 x2 y1 y2 z1 z2 g1 d1 g2 d2 l := ⟨h.p.step hb, h.s.below hb, h.t.below hb⟩
theorem Q8.two {W w : World} {a1 a2 b1 b2 c1 c2 x1 x2 y1 y2 z1 z2 : Int} {g1 d1 g2 d2 : Nat} {l : List (Int × Int)} (h : Q8 W w a1 a2 b1 b2 c1 c2 x1 x2 y1 y2 z1 z2 g1 d1 g2 d2 l) : w.cell? ⟨W.heap.size + 1 + 1 + 1, 0, none⟩ = some (.int .i64 x1) ∧ w.cell? ⟨W.heap.size + 1 + 1 + 1, 1, none⟩ = some (.int .i64 x2) := ⟨h.p.x.c0, h.p.x.c1⟩
theorem Q8.drew {W w : World} {a1 a2 b1 b2 c1 c2 x1 x2 y1 y2 z1 z2 : Int} {g1 d1 g2 d2 : Nat} {l : List (Int × Int)} (h : Q8 W w a1 a2 b1 b2 c1 c2 x1 x2 y1 y2 z1 z2 g1 d1 g2 d2 l) : Q8 W w.drew a1 a2 b1 b2 c1 c2 x1 x2 y1 y2 z1 z2 g1 d1 g2 d2 l := h.step ⟨rfl, rfl, rfl, Nat.le_refl _, fun _ _ => rfl⟩
theorem ord_ways (a1 a2 b1 b2 c1 c2 : Int) : (sameB a1 a2 b1 b2 = true ∧ ltP (a1, a2) (b1, b2) = false) ∨ (sameB a1 a2 b1 b2 = false ∧ ltP (a1, a2) (b1, b2) = false ∧ ltP (b1, b2) (a1, a2) = true) ∨
    (sameB a1 a2 b1 b2 = false ∧ ltP (a1, a2) (b1, b2) = true ∧ ltP (b1, b2) (a1, a2) = false ∧ ltP (b1, b2) (c1, c2) = false) ∨
    (sameB a1 a2 b1 b2 = false ∧ ltP (a1, a2) (b1, b2) = true ∧ ltP (b1, b2) (a1, a2) = false ∧ ltP (b1, b2) (c1, c2) = true ∧ ltP (a1, a2) (c1, c2) = true) := by
  cases hs : sameB a1 a2 b1 b2
  · cases h1 : ltP (a1, a2) (b1, b2)
    · cases h2 : ltP (b1, b2) (a1, a2)
      · have := lt_total h1 h2
        rw [same_iff, decide_eq_false_iff_not] at hs
        exact absurd this hs
      · exact .inr (.inl ⟨rfl, rfl, rfl⟩)
    · have h2 := lt_asymm h1
      cases h3 : ltP (b1, b2) (c1, c2)
      · exact .inr (.inr (.inl ⟨rfl, rfl, h2, rfl⟩))
      · exact .inr (.inr (.inr ⟨rfl, rfl, h2, rfl, lt_trans h1 h3⟩))
  · rw [same_iff, decide_eq_true_iff] at hs
    rw [hs]
    exact .inl ⟨rfl, lt_irrefl _⟩
set_option maxRecDepth 100000 in
set_option maxHeartbeats 8000000 in
theorem walk (a1 a2 b1 b2 c1 c2 x1 x2 y1 y2 z1 z2 r : Int) (W : World) (ha1 : -9223372036854775808 ≤ a1 ∧ a1 ≤ 9223372036854775807) (ha2 : -9223372036854775808 ≤ a2 ∧ a2 ≤ 9223372036854775807) (hb1 : -9223372036854775808 ≤ b1 ∧ b1 ≤ 9223372036854775807) (hb2 : -9223372036854775808 ≤ b2 ∧ b2 ≤ 9223372036854775807) (hc1 : -9223372036854775808 ≤ c1 ∧ c1 ≤ 9223372036854775807) (hc2 : -9223372036854775808 ≤ c2 ∧ c2 ≤ 9223372036854775807) (_ : -9223372036854775808 ≤ x1 ∧ x1 ≤ 9223372036854775807) (_ : -9223372036854775808 ≤ x2 ∧ x2 ≤ 9223372036854775807) (_ : -9223372036854775808 ≤ y1 ∧ y1 ≤ 9223372036854775807) (_ : -9223372036854775808 ≤ y2 ∧ y2 ≤ 9223372036854775807) (_ : -9223372036854775808 ≤ z1 ∧ z1 ≤ 9223372036854775807) (_ : -9223372036854775808 ≤ z2 ∧ z2 ≤ 9223372036854775807) (_ : -9223372036854775808 ≤ r ∧ r ≤ 9223372036854775807) :
    Calls Try.prog 6 #[.agg #[.int .i64 a1, .int .i64 a2], .agg #[.int .i64 b1, .int .i64 b2], .agg #[.int .i64 c1, .int .i64 c2], .agg #[.int .i64 x1, .int .i64 x2], .agg #[.int .i64 y1, .int .i64 y2], .agg #[.int .i64 z1, .int .i64 z2], .int .i64 r] W fun e w' => e = .returned (.bool true) ∧ Below W.heap.size W w' := by
  have oka := hide (show Ok (a1, a2) from ⟨ha1, ha2⟩)
  have okb := hide (show Ok (b1, b2) from ⟨hb1, hb2⟩)
  have okc := hide (show Ok (c1, c2) from ⟨hc1, hc2⟩)
  clear ha1 ha2 hb1 hb2 hc1 hc2
  have st0 := hide (P6.start W a1 a2 b1 b2 c1 c2 x1 x2 y1 y2 z1 z2 25 35)
  go_enter Try.func6, Try.ntmps6
  go_upto_region 1 with (fail)
  generalize (World.alloc (World.alloc (World.alloc (World.alloc (World.alloc (World.alloc W _) _) _) _) _) _) = w1 at st0 ⊢
  go_cut [15] (fun s15 wx => s15 = .bool true ∧ P6 W wx a1 a2 b1 b2 c1 c2 x1 x2 y1 y2 z1 z2)
  case first =>
    have caa := fun w => less_at a1 a2 a1 a2 w
    have cab := fun w => less_at a1 a2 b1 b2 w
    have cba := fun w => less_at b1 b2 a1 a2 w
    have cbc := fun w => less_at b1 b2 c1 c2 w
    have cac := fun w => less_at a1 a2 c1 c2 w
    rw [lt_irrefl] at caa
    have eqb := fun w => eql_inst a1 a2 b1 b2 w
    have ways := ord_ways a1 a2 b1 b2 c1 c2
    generalize ltP (a1, a2) (b1, b2) = lab at cab ways
    generalize ltP (b1, b2) (a1, a2) = lba at cba ways
    generalize ltP (b1, b2) (c1, c2) = lbc at cbc ways
    generalize ltP (a1, a2) (c1, c2) = lac at cac ways
    generalize sameB a1 a2 b1 b2 = eqs at eqb ways
    have Caa := hide caa
    have Cab := hide cab
    have Cba := hide cba
    have Cbc := hide cbc
    have Cac := hide cac
    have WAYS := hide ways
    clear caa cab cba cbc cac ways
    refine wp_region_sp (fun w' => P6 W w' a1 a2 b1 b2 c1 c2 x1 x2 y1 y2 z1 z2) (by kernel_rfl) (by kernel_rfl) st0.out.drew ?_
    generalize hS : (fun w' => P6 W w' a1 a2 b1 b2 c1 c2 x1 x2 y1 y2 z1 z2) = S
    have l1 : ∀ k : Sp S, k.w.cell? ⟨W.heap.size, 0, none⟩ = some (.int .i64 a1) := by subst hS; exact fun k => k.ok.a.c0
    have l2 : ∀ k : Sp S, k.w.cell? ⟨W.heap.size, 1, none⟩ = some (.int .i64 a2) := by subst hS; exact fun k => k.ok.a.c1
    have l3 : ∀ k : Sp S, k.w.cell? ⟨W.heap.size + 1, 0, none⟩ = some (.int .i64 b1) := by subst hS; exact fun k => k.ok.b.c0
    have l4 : ∀ k : Sp S, k.w.cell? ⟨W.heap.size + 1, 1, none⟩ = some (.int .i64 b2) := by subst hS; exact fun k => k.ok.b.c1
    have l5 : ∀ k : Sp S, k.w.cell? ⟨W.heap.size + 1 + 1, 0, none⟩ = some (.int .i64 c1) := by subst hS; exact fun k => k.ok.c.c0
    have l6 : ∀ k : Sp S, k.w.cell? ⟨W.heap.size + 1 + 1, 1, none⟩ = some (.int .i64 c2) := by subst hS; exact fun k => k.ok.c.c1
    have ne : Nonempty (Sp S) := by subst hS; exact ⟨⟨_, st0.out⟩⟩
    have STEP := hide (show ∀ w w', S w → Below w.heap.size w w' → S w' by subst hS; exact fun _ _ h hb => h.step hb)
    have OLD := hide (show ∀ k : Sp S, P6 W k.w a1 a2 b1 b2 c1 c2 x1 x2 y1 y2 z1 z2 by subst hS; exact fun k => k.ok)
    clear hS
    rcases WAYS.out with ⟨rfl, rfl⟩ | ⟨rfl, rfl, rfl⟩ | ⟨rfl, rfl, rfl, rfl⟩ | ⟨rfl, rfl, rfl, rfl, rfl⟩
    all_goals
      clear WAYS
      generalize hac : (Act.mk _ _) = ac
      repeat (
        refine wpQuiet_step (fun K hK => ?_)
        subst hac
        go_simp
        first
          | (revert hK; generalize hac : (Act.mk _ _) = ac; intro hK; refine hK _ ?_; clear hK K)
          | (apply Exists.intro; refine ⟨fun _ => ?_, ?_⟩; (first | (go_at_call 15; with_reducible exact sp_call STEP.out _ (Caa.out _)) | (go_at_call 15; with_reducible exact sp_call STEP.out _ (Cab.out _)) | (go_at_call 15; with_reducible exact sp_call STEP.out _ (Cba.out _)) | (go_at_call 15; with_reducible exact sp_call STEP.out _ (Cbc.out _)) | (go_at_call 15; with_reducible exact sp_call STEP.out _ (Cac.out _))); revert hK; generalize hac : (Act.mk _ _) = ac; intro hK; refine hK _ ?_; clear hK K))
      refine wpQuiet_nil ?_
      subst hac
      intro kk
      have OK := hide (OLD.out kk)
      generalize kk.w = wk at OK ⊢
      clear l1 l2 l3 l4 l5 l6 ne OLD STEP
      go_wp2
      go_meet
      exact ⟨rfl, OK.out⟩
  case rest =>
    obtain ⟨rfl, st1⟩ := hcut
    have ST1 := hide st1
    clear st1 st0
    go_upto_region 2 with (fail)
    go_cut [16] (fun s16 wx => s16 = .bool true ∧ P6 W wx a1 a2 b1 b2 c1 c2 x1 x2 y1 y2 z1 z2)
    case first =>
      have caa := fun w => below_any x1 x2 x1 x2 w
      have cab := fun w => below_any x1 x2 y1 y2 w
      have cba := fun w => below_any y1 y2 x1 x2 w
      have cbc := fun w => below_any y1 y2 z1 z2 w
      have cac := fun w => below_any x1 x2 z1 z2 w
      rw [lt_irrefl] at caa
      have eqb := fun w => eql_ballot x1 x2 y1 y2 w
      have ways := ord_ways x1 x2 y1 y2 z1 z2
      generalize ltP (x1, x2) (y1, y2) = lab at cab ways
      generalize ltP (y1, y2) (x1, x2) = lba at cba ways
      generalize ltP (y1, y2) (z1, z2) = lbc at cbc ways
      generalize ltP (x1, x2) (z1, z2) = lac at cac ways
      generalize sameB x1 x2 y1 y2 = eqs at eqb ways
      have Caa := hide caa
      have Cab := hide cab
      have Cba := hide cba
      have Cbc := hide cbc
      have Cac := hide cac
      have WAYS := hide ways
      clear caa cab cba cbc cac ways
      refine wp_region_sp (fun w' => P6 W w' a1 a2 b1 b2 c1 c2 x1 x2 y1 y2 z1 z2) (by kernel_rfl) (by kernel_rfl) ST1.out.drew ?_
      generalize hS : (fun w' => P6 W w' a1 a2 b1 b2 c1 c2 x1 x2 y1 y2 z1 z2) = S
      have l1 : ∀ k : Sp S, k.w.cell? ⟨W.heap.size + 1 + 1 + 1, 0, none⟩ = some (.int .i64 x1) := by subst hS; exact fun k => k.ok.x.c0
      have l2 : ∀ k : Sp S, k.w.cell? ⟨W.heap.size + 1 + 1 + 1, 1, none⟩ = some (.int .i64 x2) := by subst hS; exact fun k => k.ok.x.c1
      have l3 : ∀ k : Sp S, k.w.cell? ⟨W.heap.size + 1 + 1 + 1 + 1, 0, none⟩ = some (.int .i64 y1) := by subst hS; exact fun k => k.ok.y.c0
      have l4 : ∀ k : Sp S, k.w.cell? ⟨W.heap.size + 1 + 1 + 1 + 1, 1, none⟩ = some (.int .i64 y2) := by subst hS; exact fun k => k.ok.y.c1
      have l5 : ∀ k : Sp S, k.w.cell? ⟨W.heap.size + 1 + 1 + 1 + 1 + 1, 0, none⟩ = some (.int .i64 z1) := by subst hS; exact fun k => k.ok.z.c0
      have l6 : ∀ k : Sp S, k.w.cell? ⟨W.heap.size + 1 + 1 + 1 + 1 + 1, 1, none⟩ = some (.int .i64 z2) := by subst hS; exact fun k => k.ok.z.c1
      have ne : Nonempty (Sp S) := by subst hS; exact ⟨⟨_, ST1.out⟩⟩
      have STEP := hide (show ∀ w w', S w → Below w.heap.size w w' → S w' by subst hS; exact fun _ _ h hb => h.step hb)
      have OLD := hide (show ∀ k : Sp S, P6 W k.w a1 a2 b1 b2 c1 c2 x1 x2 y1 y2 z1 z2 by subst hS; exact fun k => k.ok)
      clear hS
      rcases WAYS.out with ⟨rfl, rfl⟩ | ⟨rfl, rfl, rfl⟩ | ⟨rfl, rfl, rfl, rfl⟩ | ⟨rfl, rfl, rfl, rfl, rfl⟩
      all_goals
        clear WAYS
        generalize hac : (Act.mk _ _) = ac
        repeat (
          refine wpQuiet_step (fun K hK => ?_)
          subst hac
          go_simp
          first
            | (revert hK; generalize hac : (Act.mk _ _) = ac; intro hK; refine hK _ ?_; clear hK K)
            | (apply Exists.intro; refine ⟨fun _ => ?_, ?_⟩; (first | (go_at_call 16; with_reducible exact sp_call STEP.out _ (Caa.out _)) | (go_at_call 16; with_reducible exact sp_call STEP.out _ (Cab.out _)) | (go_at_call 16; with_reducible exact sp_call STEP.out _ (Cba.out _)) | (go_at_call 16; with_reducible exact sp_call STEP.out _ (Cbc.out _)) | (go_at_call 16; with_reducible exact sp_call STEP.out _ (Cac.out _))); revert hK; generalize hac : (Act.mk _ _) = ac; intro hK; refine hK _ ?_; clear hK K))
        refine wpQuiet_nil ?_
        subst hac
        intro kk
        have OK := hide (OLD.out kk)
        generalize kk.w = wk at OK ⊢
        clear l1 l2 l3 l4 l5 l6 ne OLD STEP
        go_wp2
        go_meet
        exact ⟨rfl, OK.out⟩
    case rest =>
      obtain ⟨rfl, st2⟩ := hcut
      have ST2 := hide st2
      clear st2 ST1
      go_upto_region 3 with (fail)
      go_cut [17, 18] (fun s17 s18 wx => ∃ g1 d1 g2 d2, s17 = .pointer (some ⟨g1, 0, none⟩) ∧ s18 = .pointer (some ⟨g2, 0, none⟩) ∧ Kp W wx g1 d1 (mk [(a1, a2), (b1, b2), (c1, c2)]) ∧ Kp W wx g2 d2 (mk [(c1, c2), (a1, a2), (a1, a2), (b1, b2)]) ∧ P6 W wx a1 a2 b1 b2 c1 c2 x1 x2 y1 y2 z1 z2)
      case first =>
        have q0 := ST2.out.a.c0
        have q1 := ST2.out.a.c1
        have q2 := ST2.out.b.c0
        have q3 := ST2.out.b.c1
        have q4 := ST2.out.c.c0
        have q5 := ST2.out.c.c1
        have oks : ∀ s, s ∈ [(a1, a2), (b1, b2), (c1, c2)] → Ok s := fun s hs => by
          simp at hs
          rcases hs with rfl | rfl | rfl
          · exact oka.out
          · exact okb.out
          · exact okc.out
        have okt : ∀ s, s ∈ [(c1, c2), (a1, a2), (a1, a2), (b1, b2)] → Ok s := fun s hs => by
          simp at hs
          rcases hs with rfl | rfl | rfl
          · exact okc.out
          · exact oka.out
          · exact okb.out
        have OKS := hide oks
        have OKT := hide okt
        clear oks okt
        have le3 : 3 ≤ 4611686018427387904 := by omega
        have le4 : 4 ≤ 4611686018427387904 := by omega
        go_region_held3 (fun w' => w'.cell? ⟨W.heap.size, 0, none⟩ = some (.int .i64 a1) ∧ w'.cell? ⟨W.heap.size, 1, none⟩ = some (.int .i64 a2) ∧ w'.cell? ⟨W.heap.size + 1, 0, none⟩ = some (.int .i64 b1) ∧ w'.cell? ⟨W.heap.size + 1, 1, none⟩ = some (.int .i64 b2) ∧ w'.cell? ⟨W.heap.size + 1 + 1, 0, none⟩ = some (.int .i64 c1) ∧ w'.cell? ⟨W.heap.size + 1 + 1, 1, none⟩ = some (.int .i64 c2)) ((refine P6.six (a1 := a1) (a2 := a2) (b1 := b1) (b2 := b2) (c1 := c1) (c2 := c2) (x1 := x1) (x2 := x2) (y1 := y1) (y2 := y2) (z1 := z1) (z2 := z2) ?_; first | (with_reducible exact ST2.out.drew) | (with_reducible exact (ST2.out.alloc _).drew) | (with_reducible exact ((ST2.out.alloc _).alloc _).drew) | (with_reducible exact PW1.out) | (with_reducible exact PW2.out) | (with_reducible exact PW1.out.alloc _) | (with_reducible exact PW2.out.alloc _)))
          (first
            | (go_at_call 8; (have hcs : (#[.int .i64 a1, .int .i64 a2, .int .i64 b1, .int .i64 b2, .int .i64 c1, .int .i64 c2] : Array Value).toList = cellsP [(a1, a2), (b1, b2), (c1, c2)] := rfl); (have hln : [(a1, a2), (b1, b2), (c1, c2)].length = 3 := rfl); (with_reducible refine (new_any _ 3 3 [(a1, a2), (b1, b2), (c1, c2)] _ hln ?_ OKS.out le3).mono ?_); (· first | (with_reducible exact ins_row ((Row.new _ _ _).drew) hcs) | (with_reducible exact ins_row (((Row.new _ _ _).alloc _).drew) hcs) | (with_reducible exact ins_row ((Row.new2 _ _ _ _).drew) hcs) | (with_reducible exact ins_row (Row.new _ _ _) hcs) | (with_reducible exact ins_row (Row.on ((Row.new _ _ _).drew) HB2.out) hcs) | (with_reducible exact ins_row (Row.on (((Row.new _ _ _).alloc _).drew) HB2.out) hcs) | (with_reducible exact ins_row (Row.on ((Row.new2 _ _ _ _).drew) HB2.out) hcs)); rintro e w' ⟨g1, d1, rfl, hS, hg, hd, hb⟩; (obtain ⟨p, k⟩ : P6 W w' a1 a2 b1 b2 c1 c2 x1 x2 y1 y2 z1 z2 ∧ Kp W w' g1 d1 (mk [(a1, a2), (b1, b2), (c1, c2)]) := P6.new (by first | (with_reducible exact (ST2.out.alloc _).drew) | (with_reducible exact ((ST2.out.alloc _).alloc _).drew) | (with_reducible exact PW2.out) | (with_reducible exact PW2.out.alloc _)) hS hg hd hb); (have PW1 := hide p); (have K1 := hide k); (have HB1 := hide hb); clear p k hb hS hg hd hcs hln)
            | (go_at_call 8; (have hcs : (#[.int .i64 c1, .int .i64 c2, .int .i64 a1, .int .i64 a2, .int .i64 a1, .int .i64 a2, .int .i64 b1, .int .i64 b2] : Array Value).toList = cellsP [(c1, c2), (a1, a2), (a1, a2), (b1, b2)] := rfl); (have hln : [(c1, c2), (a1, a2), (a1, a2), (b1, b2)].length = 4 := rfl); (with_reducible refine (new_any _ 4 4 [(c1, c2), (a1, a2), (a1, a2), (b1, b2)] _ hln ?_ OKT.out le4).mono ?_); (· first | (with_reducible exact ins_row ((Row.new _ _ _).drew) hcs) | (with_reducible exact ins_row (((Row.new _ _ _).alloc _).drew) hcs) | (with_reducible exact ins_row ((Row.new2 _ _ _ _).drew) hcs) | (with_reducible exact ins_row (Row.new _ _ _) hcs) | (with_reducible exact ins_row (Row.on ((Row.new _ _ _).drew) HB1.out) hcs) | (with_reducible exact ins_row (Row.on (((Row.new _ _ _).alloc _).drew) HB1.out) hcs) | (with_reducible exact ins_row (Row.on ((Row.new2 _ _ _ _).drew) HB1.out) hcs)); rintro e w' ⟨g2, d2, rfl, hS, hg, hd, hb⟩; (obtain ⟨p, k⟩ : P6 W w' a1 a2 b1 b2 c1 c2 x1 x2 y1 y2 z1 z2 ∧ Kp W w' g2 d2 (mk [(c1, c2), (a1, a2), (a1, a2), (b1, b2)]) := P6.new (by first | (with_reducible exact (ST2.out.alloc _).drew) | (with_reducible exact ((ST2.out.alloc _).alloc _).drew) | (with_reducible exact PW1.out) | (with_reducible exact PW1.out.alloc _)) hS hg hd hb); (have PW2 := hide p); (have K2 := hide k); (have HB2 := hide hb); clear p k hb hS hg hd hcs hln))
        all_goals
          clear q0 q1 q2 q3 q4 q5
          go_wp2_with fail
          go_meet
          first
            | exact ⟨g1, d1, g2, d2, rfl, rfl, K1.out.below HB2.out, K2.out, PW2.out⟩
            | exact ⟨g1, d1, g2, d2, rfl, rfl, (K1.out.alloc _).below HB2.out, K2.out, PW2.out⟩
            | exact ⟨g1, d1, g2, d2, rfl, rfl, K1.out, K2.out.below HB1.out, PW1.out⟩
            | exact ⟨g1, d1, g2, d2, rfl, rfl, K1.out, (K2.out.alloc _).below HB1.out, PW1.out⟩
      case rest =>
        obtain ⟨g1, d1, g2, d2, rfl, rfl, k1, k2, p⟩ := hcut
        have K1 := hide k1
        have K2 := hide k2
        have ST3 := hide p
        clear k1 k2 p ST2
        go_upto_region 4 with (fail)
        have hmem : mk [(c1, c2), (a1, a2), (a1, a2), (b1, b2)] = mk [(a1, a2), (b1, b2), (c1, c2)] := rise_ext (rise_mk _) (rise_mk _) fun x => by
          rw [mem_mk, mem_mk]; simp only [List.mem_cons, List.not_mem_nil, or_false]
          exact ⟨fun h => by rcases h with h | h | h | h <;> simp [h], fun h => by rcases h with h | h | h <;> simp [h]⟩
        have hlen := length_mk [(a1, a2), (b1, b2), (c1, c2)]
        have k2 := K2.out
        rw [hmem] at k2
        have k1 := K1.out
        clear K1 K2 hmem
        generalize mk [(a1, a2), (b1, b2), (c1, c2)] = l at hlen k1 k2
        have hl3 : l.length ≤ 3 := hlen
        have LL := hide (show l.length ≤ 4611686018427 by omega)
        have LM := hide (show l.length ≤ 4611686018427387904 by omega)
        clear hlen hl3
        have QQ := hide (show Q8 W wc a1 a2 b1 b2 c1 c2 x1 x2 y1 y2 z1 z2 g1 d1 g2 d2 l from ⟨ST3.out, k1, k2⟩)
        clear k1 k2 ST3
        have f1 := QQ.out.p.x.c0
        have f2 := QQ.out.p.x.c1
        obtain ⟨t, ht⟩ : ∃ t, (x1 == 9223372036854775807) = t := ⟨_, rfl⟩
        have cbn : t = false → (∀ w, Calls Try.prog 17 #[.agg #[.int .i64 x1, .int .i64 x2], .int .i64 r] w fun y w' => y = .returned (.agg #[.int .i64 (x1 + 1), .int .i64 r]) ∧ Below w.heap.size w w') ∧
            (∀ w, Calls Try.prog 16 #[.agg #[.int .i64 x1, .int .i64 x2], .agg #[.int .i64 (x1 + 1), .int .i64 r]] w fun e w' => e = .returned (.bool true) ∧ Below w.heap.size w w') := fun h => by
          rw [h] at ht
          have hne : x1 ≠ 9223372036854775807 := by simpa using ht
          have hw : wrap64 (x1 + 1) = x1 + 1 := by rw [← IntWalk.i64_left]; exact IntWalk.i64_in _ (by omega)
          have hlt : ltP (x1, x2) (x1 + 1, r) = true := by unfold ltP; simp; omega
          refine ⟨fun w => ?_, fun w => ?_⟩
          · have := next_any x1 x2 r w
            rw [hw] at this
            exact this
          · have := below_any x1 x2 (x1 + 1) r w
            rw [hlt] at this
            exact this
        have CBN := hide cbn
        clear cbn
        have cs : ∀ (A B : Option Addr) (c d : Nat) (w : World), Ins w A l → Ins w B l → Calls Try.prog 11 #[.slice A l.length c, .slice B l.length d] w fun e w' => e = .returned (.bool true) ∧ Below w.heap.size w w' := fun A B c d w hA hB =>
          (same_inst A B l.length l.length c d l l w rfl rfl hA hB LM.out LM.out).mono fun e w' h => by
            obtain ⟨he, q, rfl⟩ := h
            exact ⟨by rw [he]; simp, rfl, rfl, rfl, Nat.le_refl _, fun _ _ => rfl⟩
        have CS := hide cs
        have cl : ∀ (g d : Nat) (w : World), Set w g d l → Calls Try.prog 10 #[.pointer (some ⟨g, 0, none⟩)] w fun e w' => e = .returned (.int .i64 l.length) ∧ Below w.heap.size w w' := fun g d w h =>
          (len_any g d l w h).mono fun e w' h => by
            obtain ⟨he, q, rfl⟩ := h
            exact ⟨he, rfl, rfl, rfl, Nat.le_refl _, fun _ _ => rfl⟩
        have CL := hide cl
        have ci : ∀ (g d : Nat) (w : World), Set w g d l → Calls Try.prog 12 #[.pointer (some ⟨g, 0, none⟩)] w fun e w' => ∃ A c, e = .returned (.slice A l.length c) ∧ Ins w' A l ∧ Below w.heap.size w w' := fun g d w h =>
          (list_any g d l w h LL.out).mono fun e w' h => by
            obtain ⟨v, he, hm⟩ := h
            have hb := hm.2.2
            obtain ⟨A, c, rfl, hi⟩ := hm.slice
            exact ⟨A, c, he, hi, hb⟩
        have CI := hide ci
        clear cs cl ci LL LM
        have QD := hide QQ.out.drew
        clear QQ f1 f2
        have QQ := QD
        clear QD
        cases t
        · have cn := CBN.out rfl
          have CN := hide cn.1
          have CB := hide cn.2
          clear cn CBN
          go_region_held3 (fun w' => w'.cell? ⟨W.heap.size + 1 + 1 + 1, 0, none⟩ = some (.int .i64 x1) ∧ w'.cell? ⟨W.heap.size + 1 + 1 + 1, 1, none⟩ = some (.int .i64 x2)) ((with_reducible exact QQ.out.two))
            (first
              | (go_at_call 17; (with_reducible refine (CN.out _).mono ?_); rintro e w' ⟨rfl, hb⟩; (have QN := hide (QQ.out.step hb)); (try ((have IN := hide (I1.out.below hb)); clear I1; (have I1 := IN); clear IN)); (try ((have IN := hide (I2.out.below hb)); clear I2; (have I2 := IN); clear IN)); clear QQ hb; (have QQ := QN); clear QN)
              | (go_at_call 16; (with_reducible refine (CB.out _).mono ?_); rintro e w' ⟨rfl, hb⟩; (have QN := hide (QQ.out.step hb)); (try ((have IN := hide (I1.out.below hb)); clear I1; (have I1 := IN); clear IN)); (try ((have IN := hide (I2.out.below hb)); clear I2; (have I2 := IN); clear IN)); clear QQ hb; (have QQ := QN); clear QN)
              | (go_at_call 12; (with_reducible refine (CI.out g1 d1 _ QQ.out.s.set).mono ?_); rintro e w' ⟨A1, e1, rfl, hi, hb⟩; (have QN := hide (QQ.out.step hb)); (try ((have IN := hide (I1.out.below hb)); clear I1; (have I1 := IN); clear IN)); (try ((have IN := hide (I2.out.below hb)); clear I2; (have I2 := IN); clear IN)); clear QQ hb; (have QQ := QN); clear QN; (have I1 := hide hi); clear hi)
              | (go_at_call 12; (with_reducible refine (CI.out g2 d2 _ QQ.out.t.set).mono ?_); rintro e w' ⟨A2, e2, rfl, hi, hb⟩; (have QN := hide (QQ.out.step hb)); (try ((have IN := hide (I1.out.below hb)); clear I1; (have I1 := IN); clear IN)); (try ((have IN := hide (I2.out.below hb)); clear I2; (have I2 := IN); clear IN)); clear QQ hb; (have QQ := QN); clear QN; (have I2 := hide hi); clear hi)
              | (go_at_call 11; (with_reducible refine (CS.out _ _ _ _ _ I1.out I2.out).mono ?_); rintro e w' ⟨rfl, hb⟩; (have QN := hide (QQ.out.step hb)); (try ((have IN := hide (I1.out.below hb)); clear I1; (have I1 := IN); clear IN)); (try ((have IN := hide (I2.out.below hb)); clear I2; (have I2 := IN); clear IN)); clear QQ hb; (have QQ := QN); clear QN)
              | (go_at_call 10; (with_reducible refine (CL.out g1 d1 _ QQ.out.s.set).mono ?_); rintro e w' ⟨rfl, hb⟩; (have QN := hide (QQ.out.step hb)); (try ((have IN := hide (I1.out.below hb)); clear I1; (have I1 := IN); clear IN)); (try ((have IN := hide (I2.out.below hb)); clear I2; (have I2 := IN); clear IN)); clear QQ hb; (have QQ := QN); clear QN)
              | (go_at_call 10; (with_reducible refine (CL.out g2 d2 _ QQ.out.t.set).mono ?_); rintro e w' ⟨rfl, hb⟩; (have QN := hide (QQ.out.step hb)); (try ((have IN := hide (I1.out.below hb)); clear I1; (have I1 := IN); clear IN)); (try ((have IN := hide (I2.out.below hb)); clear I2; (have I2 := IN); clear IN)); clear QQ hb; (have QQ := QN); clear QN)
              | (go_at_call 3; (with_reducible refine (runs_any _).mono ?_); rintro e w' ⟨rfl, hb⟩; (have QN := hide (QQ.out.step hb)); (try ((have IN := hide (I1.out.below hb)); clear I1; (have I1 := IN); clear IN)); (try ((have IN := hide (I2.out.below hb)); clear I2; (have I2 := IN); clear IN)); clear QQ hb; (have QQ := QN); clear QN))
          all_goals
            go_wp2_with fail
            go_ret
            exact ⟨rfl, QQ.out.p.low⟩
        · clear CBN
          refine wp_region_noPanic ?_
          refine wp_region_held_drew (S := (fun w' => w'.cell? ⟨W.heap.size + 1 + 1 + 1, 0, none⟩ = some (.int .i64 x1) ∧ w'.cell? ⟨W.heap.size + 1 + 1 + 1, 1, none⟩ = some (.int .i64 x2))) (by kernel_rfl) (by with_reducible exact QQ.out.two) (fun hHeld => ?_)
          refine wpAnyH_take (i := 0) (v := ?ov0) (by simp only [List.getElem?_toArray, List.getElem?_cons_zero]; exact rfl) (by kernel_rfl) (by kernel_rfl) (by kernel_rfl) (fun _ _ _ h => h) (Or.inl ⟨by rfl, ?oy0⟩) (by assumption) ?or0
          case oy0 => (intro w hSw; (try dsimp only at hSw); go_simp; try with_reducible rfl)
          try simp only [Act.put, List.setIfInBounds_toArray, List.set_cons_zero, List.set_cons_succ]
          refine wpAnyH_take (i := 1) (v := ?ov1) (by simp only [List.getElem?_toArray, List.getElem?_cons_succ, List.getElem?_cons_zero]; exact rfl) (by kernel_rfl) (by kernel_rfl) (by kernel_rfl) (fun _ _ _ h => h) (Or.inl ⟨by rfl, ?oy1⟩) (by assumption) ?or1
          case oy1 => (intro w hSw; (try dsimp only at hSw); go_simp; try with_reducible rfl)
          try simp only [Act.put, List.setIfInBounds_toArray, List.set_cons_zero, List.set_cons_succ]
          refine wpAnyH_take (i := 2) (v := ?ov2) (by simp only [List.getElem?_toArray, List.getElem?_cons_succ, List.getElem?_cons_zero]; exact rfl) (by kernel_rfl) (by kernel_rfl) (by kernel_rfl) (fun _ _ _ h => h) (Or.inl ⟨by rfl, ?oy2⟩) (by assumption) ?or2
          case oy2 => (intro w hSw; (try dsimp only at hSw); go_simp; try with_reducible rfl)
          try simp only [Act.put, List.setIfInBounds_toArray, List.set_cons_zero, List.set_cons_succ]
          refine wpAnyH_take (i := 3) (v := ?ov3) (by simp only [List.getElem?_toArray, List.getElem?_cons_succ, List.getElem?_cons_zero]; exact rfl) (by kernel_rfl) (by kernel_rfl) (by kernel_rfl) (fun _ _ _ h => h) (Or.inl ⟨by rfl, ?oy3⟩) (by assumption) ?or3
          case oy3 => (intro w hSw; (try dsimp only at hSw); go_simp; try with_reducible rfl)
          try simp only [Act.put, List.setIfInBounds_toArray, List.set_cons_zero, List.set_cons_succ]
          refine wpAnyH_take (i := 4) (v := ?ov4) (by simp only [List.getElem?_toArray, List.getElem?_cons_succ, List.getElem?_cons_zero]; exact rfl) (by kernel_rfl) (by kernel_rfl) (by kernel_rfl) (fun _ _ _ h => h) (Or.inl ⟨by rfl, ?oy4⟩) (by assumption) ?or4
          case oy4 => (intro w hSw; (try dsimp only at hSw); go_simp; try with_reducible rfl)
          try simp only [Act.put, List.setIfInBounds_toArray, List.set_cons_zero, List.set_cons_succ]
          refine wpAnyH_take (i := 5) (v := ?ov5) (by simp only [List.getElem?_toArray, List.getElem?_cons_succ, List.getElem?_cons_zero]; exact rfl) (by kernel_rfl) (by kernel_rfl) (by kernel_rfl) (fun _ _ _ h => h) (Or.inl ⟨by rfl, ?oy5⟩) (by assumption) ?or5
          case oy5 => (intro w hSw; (try dsimp only at hSw); go_simp; try with_reducible rfl)
          try simp only [Act.put, List.setIfInBounds_toArray, List.set_cons_zero, List.set_cons_succ]
          refine wpAnyH_take (i := 6) (v := ?ov6) (by simp only [List.getElem?_toArray, List.getElem?_cons_succ, List.getElem?_cons_zero]; exact rfl) (by kernel_rfl) (by kernel_rfl) (by kernel_rfl) (fun _ _ _ h => h) (Or.inl ⟨by rfl, ?oy6⟩) (by assumption) ?or6
          case oy6 => (intro w hSw; (try dsimp only at hSw); go_simp; try with_reducible rfl)
          try simp only [Act.put, List.setIfInBounds_toArray, List.set_cons_zero, List.set_cons_succ]
          refine wpAnyH_take (i := 7) (v := ?ov7) (by simp only [List.getElem?_toArray, List.getElem?_cons_succ, List.getElem?_cons_zero]; exact rfl) (by kernel_rfl) (by kernel_rfl) (by kernel_rfl) (fun _ _ _ h => h) (Or.inl ⟨by rfl, ?oy7⟩) (by assumption) ?or7
          case oy7 => (intro w hSw; (try dsimp only at hSw); go_simp; try with_reducible rfl)
          try simp only [Act.put, List.setIfInBounds_toArray, List.set_cons_zero, List.set_cons_succ]
          refine wpAnyH_take (i := 8) (v := ?ov8) (by simp only [List.getElem?_toArray, List.getElem?_cons_succ, List.getElem?_cons_zero]; exact rfl) (by kernel_rfl) (by kernel_rfl) (by kernel_rfl) (fun _ _ _ h => h) (Or.inl ⟨by rfl, ?oy8⟩) (by assumption) ?or8
          case oy8 => (intro w hSw; (try dsimp only at hSw); go_simp; try with_reducible rfl)
          try simp only [Act.put, List.setIfInBounds_toArray, List.set_cons_zero, List.set_cons_succ]
          refine wpAnyH_take (i := 9) (v := undef) (by simp only [List.getElem?_toArray, List.getElem?_cons_succ, List.getElem?_cons_zero]; exact rfl) (by kernel_rfl) (by kernel_rfl) (by kernel_rfl) (fun _ _ _ h => h) (Or.inr ⟨by rfl, rfl⟩) (by assumption) ?_
          try simp only [Act.put, List.setIfInBounds_toArray, List.set_cons_zero, List.set_cons_succ]
          refine wpAnyH_take (i := 10) (v := undef) (by simp only [List.getElem?_toArray, List.getElem?_cons_succ, List.getElem?_cons_zero]; exact rfl) (by kernel_rfl) (by kernel_rfl) (by kernel_rfl) (fun _ _ _ h => h) (Or.inr ⟨by rfl, rfl⟩) (by assumption) ?_
          try simp only [Act.put, List.setIfInBounds_toArray, List.set_cons_zero, List.set_cons_succ]
          refine wpAnyH_take (i := 11) (v := undef) (by simp only [List.getElem?_toArray, List.getElem?_cons_succ, List.getElem?_cons_zero]; exact rfl) (by kernel_rfl) (by kernel_rfl) (by kernel_rfl) (fun _ _ _ h => h) (Or.inr ⟨by rfl, rfl⟩) (by assumption) ?_
          try simp only [Act.put, List.setIfInBounds_toArray, List.set_cons_zero, List.set_cons_succ]
          refine wpAnyH_ready (rs := [12]) (by kernel_rfl) (by simp) ?_
          refine AllReadyH.cons (by simp only [List.getElem?_toArray, List.getElem?_cons_succ, List.getElem?_cons_zero]; exact rfl) (fun K hK => ?_) AllReadyH.nil
          go_simp
          clear hHeld
          refine hK.out _ _ (by with_reducible exact QQ.out.two) (fun hHeld => ?_)
          clear hK K
          try simp only [Act.put, List.setIfInBounds_toArray, List.set_cons_zero, List.set_cons_succ]
          refine wpAnyH_ready (rs := [13]) (by kernel_rfl) (by simp) ?_
          refine AllReadyH.cons (by simp only [List.getElem?_toArray, List.getElem?_cons_succ, List.getElem?_cons_zero]; exact rfl) (fun K hK => ?_) AllReadyH.nil
          go_simp
          clear hHeld
          refine hK.out _ _ (by with_reducible exact QQ.out.two) (fun hHeld => ?_)
          clear hK K
          try simp only [Act.put, List.setIfInBounds_toArray, List.set_cons_zero, List.set_cons_succ]
          refine wpAnyH_take (i := 14) (v := ?ov14) (by simp only [List.getElem?_toArray, List.getElem?_cons_succ, List.getElem?_cons_zero]; exact rfl) (by kernel_rfl) (by kernel_rfl) (by kernel_rfl) (fun _ _ _ h => h) (Or.inl ⟨by rfl, ?oy14⟩) (by assumption) ?or14
          case oy14 => (intro w hSw; (try dsimp only at hSw); go_simp; try with_reducible rfl)
          try simp only [Act.put, List.setIfInBounds_toArray, List.set_cons_zero, List.set_cons_succ]
          refine wpAnyH_take (i := 15) (v := ?ov15) (by simp only [List.getElem?_toArray, List.getElem?_cons_succ, List.getElem?_cons_zero]; exact rfl) (by kernel_rfl) (by kernel_rfl) (by kernel_rfl) (fun _ _ _ h => h) (Or.inl ⟨by rfl, ?oy15⟩) (by assumption) ?or15
          case oy15 => (intro w hSw; (try dsimp only at hSw); go_simp; try with_reducible rfl)
          try simp only [Act.put, List.setIfInBounds_toArray, List.set_cons_zero, List.set_cons_succ]
          refine wpAnyH_take (i := 16) (v := ?ov16) (by simp only [List.getElem?_toArray, List.getElem?_cons_succ, List.getElem?_cons_zero]; exact rfl) (by kernel_rfl) (by kernel_rfl) (by kernel_rfl) (fun _ _ _ h => h) (Or.inl ⟨by rfl, ?oy16⟩) (by assumption) ?or16
          case oy16 => (intro w hSw; (try dsimp only at hSw); go_simp; try with_reducible rfl)
          try simp only [Act.put, List.setIfInBounds_toArray, List.set_cons_zero, List.set_cons_succ]
          refine wpAnyH_take (i := 17) (v := ?ov17) (by simp only [List.getElem?_toArray, List.getElem?_cons_succ, List.getElem?_cons_zero]; exact rfl) (by kernel_rfl) (by kernel_rfl) (by kernel_rfl) (fun _ _ _ h => h) (Or.inl ⟨by rfl, ?oy17⟩) (by assumption) ?or17
          case oy17 => (intro w hSw; (try dsimp only at hSw); go_simp; try with_reducible rfl)
          try simp only [Act.put, List.setIfInBounds_toArray, List.set_cons_zero, List.set_cons_succ]
          refine wpAnyH_take (i := 18) (v := ?ov18) (by simp only [List.getElem?_toArray, List.getElem?_cons_succ, List.getElem?_cons_zero]; exact rfl) (by kernel_rfl) (by kernel_rfl) (by kernel_rfl) (fun _ _ _ h => h) (Or.inl ⟨by rfl, ?oy18⟩) (by assumption) ?or18
          case oy18 => (intro w hSw; (try dsimp only at hSw); go_simp; try with_reducible rfl)
          try simp only [Act.put, List.setIfInBounds_toArray, List.set_cons_zero, List.set_cons_succ]
          refine wpAnyH_take (i := 19) (v := ?ov19) (by simp only [List.getElem?_toArray, List.getElem?_cons_succ, List.getElem?_cons_zero]; exact rfl) (by kernel_rfl) (by kernel_rfl) (by kernel_rfl) (fun _ _ _ h => h) (Or.inl ⟨by rfl, ?oy19⟩) (by assumption) ?or19
          case oy19 => (intro w hSw; (try dsimp only at hSw); go_simp; try with_reducible rfl)
          try simp only [Act.put, List.setIfInBounds_toArray, List.set_cons_zero, List.set_cons_succ]
          refine wpAnyH_take (i := 20) (v := ?ov20) (by simp only [List.getElem?_toArray, List.getElem?_cons_succ, List.getElem?_cons_zero]; exact rfl) (by kernel_rfl) (by kernel_rfl) (by kernel_rfl) (fun _ _ _ h => h) (Or.inl ⟨by rfl, ?oy20⟩) (by assumption) ?or20
          case oy20 => (intro w hSw; (try dsimp only at hSw); go_simp; try with_reducible rfl)
          try simp only [Act.put, List.setIfInBounds_toArray, List.set_cons_zero, List.set_cons_succ]
          refine wpAnyH_take (i := 21) (v := ?ov21) (by simp only [List.getElem?_toArray, List.getElem?_cons_succ, List.getElem?_cons_zero]; exact rfl) (by kernel_rfl) (by kernel_rfl) (by kernel_rfl) (fun _ _ _ h => h) (Or.inl ⟨by rfl, ?oy21⟩) (by assumption) ?or21
          case oy21 => (intro w hSw; (try dsimp only at hSw); go_simp; try with_reducible rfl)
          try simp only [Act.put, List.setIfInBounds_toArray, List.set_cons_zero, List.set_cons_succ]
          refine wpAnyH_take (i := 22) (v := ?ov22) (by simp only [List.getElem?_toArray, List.getElem?_cons_succ, List.getElem?_cons_zero]; exact rfl) (by kernel_rfl) (by kernel_rfl) (by kernel_rfl) (fun _ _ _ h => h) (Or.inl ⟨by rfl, ?oy22⟩) (by assumption) ?or22
          case oy22 => (intro w hSw; (try dsimp only at hSw); go_simp; try with_reducible rfl)
          try simp only [Act.put, List.setIfInBounds_toArray, List.set_cons_zero, List.set_cons_succ]
          refine wpAnyH_take (i := 23) (v := ?ov23) (by simp only [List.getElem?_toArray, List.getElem?_cons_succ, List.getElem?_cons_zero]; exact rfl) (by kernel_rfl) (by kernel_rfl) (by kernel_rfl) (fun _ _ _ h => h) (Or.inl ⟨by rfl, ?oy23⟩) (by assumption) ?or23
          case oy23 => (intro w hSw; (try dsimp only at hSw); go_simp; try with_reducible rfl)
          try simp only [Act.put, List.setIfInBounds_toArray, List.set_cons_zero, List.set_cons_succ]
          refine wpAnyH_take (i := 24) (v := ?ov24) (by simp only [List.getElem?_toArray, List.getElem?_cons_succ, List.getElem?_cons_zero]; exact rfl) (by kernel_rfl) (by kernel_rfl) (by kernel_rfl) (fun _ _ _ h => h) (Or.inl ⟨by rfl, ?oy24⟩) (by assumption) ?or24
          case oy24 => (intro w hSw; (try dsimp only at hSw); go_simp; try with_reducible rfl)
          try simp only [Act.put, List.setIfInBounds_toArray, List.set_cons_zero, List.set_cons_succ]
          refine wpAnyH_take (i := 25) (v := ?ov25) (by simp only [List.getElem?_toArray, List.getElem?_cons_succ, List.getElem?_cons_zero]; exact rfl) (by kernel_rfl) (by kernel_rfl) (by kernel_rfl) (fun _ _ _ h => h) (Or.inl ⟨by rfl, ?oy25⟩) (by assumption) ?or25
          case oy25 => (intro w hSw; (try dsimp only at hSw); go_simp; try with_reducible rfl)
          try simp only [Act.put, List.setIfInBounds_toArray, List.set_cons_zero, List.set_cons_succ]
          refine wpAnyH_take (i := 27) (v := ?ov27) (by simp only [List.getElem?_toArray, List.getElem?_cons_succ, List.getElem?_cons_zero]; exact rfl) (by kernel_rfl) (by kernel_rfl) (by kernel_rfl) (fun _ _ _ h => h) (Or.inl ⟨by rfl, ?oy27⟩) (by assumption) ?or27
          case oy27 => (intro w hSw; (try dsimp only at hSw); go_simp; try with_reducible rfl)
          try simp only [Act.put, List.setIfInBounds_toArray, List.set_cons_zero, List.set_cons_succ]
          refine wpAnyH_ready (rs := [26]) (by kernel_rfl) (by simp) ?_
          refine AllReadyH.cons (by simp only [List.getElem?_toArray, List.getElem?_cons_succ, List.getElem?_cons_zero]; exact rfl) (fun K hK => ?_) AllReadyH.nil
          go_simp
          (go_at_call 12; (with_reducible refine (CI.out g1 d1 _ QQ.out.s.set).mono ?_); rintro e w' ⟨A1, e1, rfl, hi, hb⟩; (have QN := hide (QQ.out.step hb)); (try ((have IN := hide (I1.out.below hb)); clear I1; (have I1 := IN); clear IN)); (try ((have IN := hide (I2.out.below hb)); clear I2; (have I2 := IN); clear IN)); clear QQ hb; (have QQ := QN); clear QN; (have I1 := hide hi); clear hi)
          clear hHeld
          refine hK.out _ _ (by with_reducible exact QQ.out.two) (fun hHeld => ?_)
          clear hK K
          try simp only [Act.put, List.setIfInBounds_toArray, List.set_cons_zero, List.set_cons_succ]
          refine wpAnyH_ready (rs := [28]) (by kernel_rfl) (by simp) ?_
          refine AllReadyH.cons (by simp only [List.getElem?_toArray, List.getElem?_cons_succ, List.getElem?_cons_zero]; exact rfl) (fun K hK => ?_) AllReadyH.nil
          go_simp
          (go_at_call 12; (with_reducible refine (CI.out g2 d2 _ QQ.out.t.set).mono ?_); rintro e w' ⟨A2, e2, rfl, hi, hb⟩; (have QN := hide (QQ.out.step hb)); (try ((have IN := hide (I1.out.below hb)); clear I1; (have I1 := IN); clear IN)); (try ((have IN := hide (I2.out.below hb)); clear I2; (have I2 := IN); clear IN)); clear QQ hb; (have QQ := QN); clear QN; (have I2 := hide hi); clear hi)
          clear hHeld
          refine hK.out _ _ (by with_reducible exact QQ.out.two) (fun hHeld => ?_)
          clear hK K
          try simp only [Act.put, List.setIfInBounds_toArray, List.set_cons_zero, List.set_cons_succ]
          refine wpAnyH_ready (rs := [29]) (by kernel_rfl) (by simp) ?_
          refine AllReadyH.cons (by simp only [List.getElem?_toArray, List.getElem?_cons_succ, List.getElem?_cons_zero]; exact rfl) (fun K hK => ?_) AllReadyH.nil
          go_simp
          (go_at_call 11; (with_reducible refine (CS.out _ _ _ _ _ I1.out I2.out).mono ?_); rintro e w' ⟨rfl, hb⟩; (have QN := hide (QQ.out.step hb)); (try ((have IN := hide (I1.out.below hb)); clear I1; (have I1 := IN); clear IN)); (try ((have IN := hide (I2.out.below hb)); clear I2; (have I2 := IN); clear IN)); clear QQ hb; (have QQ := QN); clear QN)
          clear hHeld
          refine hK.out _ _ (by with_reducible exact QQ.out.two) (fun hHeld => ?_)
          clear hK K
          try simp only [Act.put, List.setIfInBounds_toArray, List.set_cons_zero, List.set_cons_succ]
          refine wpAnyH_take (i := 30) (v := ?ov30) (by simp only [List.getElem?_toArray, List.getElem?_cons_succ, List.getElem?_cons_zero]; exact rfl) (by kernel_rfl) (by kernel_rfl) (by kernel_rfl) (fun _ _ _ h => h) (Or.inl ⟨by rfl, ?oy30⟩) (by assumption) ?or30
          case oy30 => (intro w hSw; (try dsimp only at hSw); go_simp; try with_reducible rfl)
          try simp only [Act.put, List.setIfInBounds_toArray, List.set_cons_zero, List.set_cons_succ]
          refine wpAnyH_take (i := 31) (v := ?ov31) (by simp only [List.getElem?_toArray, List.getElem?_cons_succ, List.getElem?_cons_zero]; exact rfl) (by kernel_rfl) (by kernel_rfl) (by kernel_rfl) (fun _ _ _ h => h) (Or.inl ⟨by rfl, ?oy31⟩) (by assumption) ?or31
          case oy31 => (intro w hSw; (try dsimp only at hSw); go_simp; try with_reducible rfl)
          try simp only [Act.put, List.setIfInBounds_toArray, List.set_cons_zero, List.set_cons_succ]
          refine wpAnyH_take (i := 32) (v := ?ov32) (by simp only [List.getElem?_toArray, List.getElem?_cons_succ, List.getElem?_cons_zero]; exact rfl) (by kernel_rfl) (by kernel_rfl) (by kernel_rfl) (fun _ _ _ h => h) (Or.inl ⟨by rfl, ?oy32⟩) (by assumption) ?or32
          case oy32 => (intro w hSw; (try dsimp only at hSw); go_simp; try with_reducible rfl)
          try simp only [Act.put, List.setIfInBounds_toArray, List.set_cons_zero, List.set_cons_succ]
          refine wpAnyH_take (i := 34) (v := ?ov34) (by simp only [List.getElem?_toArray, List.getElem?_cons_succ, List.getElem?_cons_zero]; exact rfl) (by kernel_rfl) (by kernel_rfl) (by kernel_rfl) (fun _ _ _ h => h) (Or.inl ⟨by rfl, ?oy34⟩) (by assumption) ?or34
          case oy34 => (intro w hSw; (try dsimp only at hSw); go_simp; try with_reducible rfl)
          try simp only [Act.put, List.setIfInBounds_toArray, List.set_cons_zero, List.set_cons_succ]
          refine wpAnyH_ready (rs := [33]) (by kernel_rfl) (by simp) ?_
          refine AllReadyH.cons (by simp only [List.getElem?_toArray, List.getElem?_cons_succ, List.getElem?_cons_zero]; exact rfl) (fun K hK => ?_) AllReadyH.nil
          go_simp
          (go_at_call 10; (with_reducible refine (CL.out g1 d1 _ QQ.out.s.set).mono ?_); rintro e w' ⟨rfl, hb⟩; (have QN := hide (QQ.out.step hb)); (try ((have IN := hide (I1.out.below hb)); clear I1; (have I1 := IN); clear IN)); (try ((have IN := hide (I2.out.below hb)); clear I2; (have I2 := IN); clear IN)); clear QQ hb; (have QQ := QN); clear QN)
          clear hHeld
          refine hK.out _ _ (by with_reducible exact QQ.out.two) (fun hHeld => ?_)
          clear hK K
          try simp only [Act.put, List.setIfInBounds_toArray, List.set_cons_zero, List.set_cons_succ]
          refine wpAnyH_ready (rs := [35]) (by kernel_rfl) (by simp) ?_
          refine AllReadyH.cons (by simp only [List.getElem?_toArray, List.getElem?_cons_succ, List.getElem?_cons_zero]; exact rfl) (fun K hK => ?_) AllReadyH.nil
          go_simp
          (go_at_call 10; (with_reducible refine (CL.out g2 d2 _ QQ.out.t.set).mono ?_); rintro e w' ⟨rfl, hb⟩; (have QN := hide (QQ.out.step hb)); (try ((have IN := hide (I1.out.below hb)); clear I1; (have I1 := IN); clear IN)); (try ((have IN := hide (I2.out.below hb)); clear I2; (have I2 := IN); clear IN)); clear QQ hb; (have QQ := QN); clear QN)
          clear hHeld
          refine hK.out _ _ (by with_reducible exact QQ.out.two) (fun hHeld => ?_)
          clear hK K
          try simp only [Act.put, List.setIfInBounds_toArray, List.set_cons_zero, List.set_cons_succ]
          refine wpAnyH_take (i := 36) (v := ?ov36) (by simp only [List.getElem?_toArray, List.getElem?_cons_succ, List.getElem?_cons_zero]; exact rfl) (by kernel_rfl) (by kernel_rfl) (by kernel_rfl) (fun _ _ _ h => h) (Or.inl ⟨by rfl, ?oy36⟩) (by assumption) ?or36
          case oy36 => (intro w hSw; (try dsimp only at hSw); go_simp; try with_reducible rfl)
          try simp only [Act.put, List.setIfInBounds_toArray, List.set_cons_zero, List.set_cons_succ]
          refine wpAnyH_take (i := 37) (v := ?ov37) (by simp only [List.getElem?_toArray, List.getElem?_cons_succ, List.getElem?_cons_zero]; exact rfl) (by kernel_rfl) (by kernel_rfl) (by kernel_rfl) (fun _ _ _ h => h) (Or.inl ⟨by rfl, ?oy37⟩) (by assumption) ?or37
          case oy37 => (intro w hSw; (try dsimp only at hSw); go_simp; try with_reducible rfl)
          try simp only [Act.put, List.setIfInBounds_toArray, List.set_cons_zero, List.set_cons_succ]
          refine wpAnyH_take (i := 38) (v := ?ov38) (by simp only [List.getElem?_toArray, List.getElem?_cons_succ, List.getElem?_cons_zero]; exact rfl) (by kernel_rfl) (by kernel_rfl) (by kernel_rfl) (fun _ _ _ h => h) (Or.inl ⟨by rfl, ?oy38⟩) (by assumption) ?or38
          case oy38 => (intro w hSw; (try dsimp only at hSw); go_simp; try with_reducible rfl)
          try simp only [Act.put, List.setIfInBounds_toArray, List.set_cons_zero, List.set_cons_succ]
          refine wpAnyH_ready (rs := [39]) (by kernel_rfl) (by simp) ?_
          refine AllReadyH.cons (by simp only [List.getElem?_toArray, List.getElem?_cons_succ, List.getElem?_cons_zero]; exact rfl) (fun K hK => ?_) AllReadyH.nil
          go_simp
          (go_at_call 3; (with_reducible refine (runs_any _).mono ?_); rintro e w' ⟨rfl, hb⟩; (have QN := hide (QQ.out.step hb)); (try ((have IN := hide (I1.out.below hb)); clear I1; (have I1 := IN); clear IN)); (try ((have IN := hide (I2.out.below hb)); clear I2; (have I2 := IN); clear IN)); clear QQ hb; (have QQ := QN); clear QN)
          clear hHeld
          refine hK.out _ _ (by with_reducible exact QQ.out.two) (fun hHeld => ?_)
          clear hK K
          try simp only [Act.put, List.setIfInBounds_toArray, List.set_cons_zero, List.set_cons_succ]
          refine wpAnyH_take (i := 40) (v := ?ov40) (by simp only [List.getElem?_toArray, List.getElem?_cons_succ, List.getElem?_cons_zero]; exact rfl) (by kernel_rfl) (by kernel_rfl) (by kernel_rfl) (fun _ _ _ h => h) (Or.inl ⟨by rfl, ?oy40⟩) (by assumption) ?or40
          case oy40 => (intro w hSw; (try dsimp only at hSw); go_simp; try with_reducible rfl)
          try simp only [Act.put, List.setIfInBounds_toArray, List.set_cons_zero, List.set_cons_succ]
          refine wpAnyH_take (i := 41) (v := ?ov41) (by simp only [List.getElem?_toArray, List.getElem?_cons_succ, List.getElem?_cons_zero]; exact rfl) (by kernel_rfl) (by kernel_rfl) (by kernel_rfl) (fun _ _ _ h => h) (Or.inl ⟨by rfl, ?oy41⟩) (by assumption) ?or41
          case oy41 => (intro w hSw; (try dsimp only at hSw); go_simp; try with_reducible rfl)
          try simp only [Act.put, List.setIfInBounds_toArray, List.set_cons_zero, List.set_cons_succ]
          refine wpAnyH_done (by kernel_rfl) ?_ _
          refine NoPanic.normal ?_
          go_wp2_with fail
          go_ret
          exact ⟨rfl, QQ.out.p.low⟩
set_option maxRecDepth 100000 in
theorem lifted (os : Os) (started : os.Started) (H : Type) (enc : TypeId × Value → H) :
    ReturnsInHanded {} Try.checked os 6 .any (Rows.instOrderSpec.pre6 enc Try.prog Try.f6 Rows.instOrderRow.domain false) (Rows.instOrderSpec.post enc Try.prog Try.f6 false true false false) := by
  refine returnsInHanded_of_change (C := Try.checked) own started (by kernel_rfl) Try.func6
    (ChangeSpec.witness6 (enc := enc) (C := Try.checked) false ⟨#[], #[.agg #[.int .i64 0, .int .i64 0], .agg #[.int .i64 0, .int .i64 0], .agg #[.int .i64 0, .int .i64 0], .agg #[.int .i64 0, .int .i64 0], .agg #[.int .i64 0, .int .i64 0], .agg #[.int .i64 0, .int .i64 0], .int .i64 0], []⟩ 8 (by kernel_rfl) (by kernel_rfl) (by kernel_rfl) (by kernel_rfl)) ?_
  intro W base args ds gs before hval0 hW _ _
  have hval : ∀ (j : Nat) t v, Try.f6.params[j]? = some t → args[j]? = some v → Value.okWide Try.prog W .any base t v := hval0
  have hW' := hW
  obtain ⟨p, q, hA0, hV, rfl, _, _⟩ := hW
  have hA : DataW.TrodAll enc Try.prog W 0 (fun _ => true) true Try.f6.params.toList args.toList ds p := hA0
  rw [Try.params6] at hA hval
  obtain ⟨v0, vs0, d0, ds0, p0, q0, hargs, rfl, rfl, h0, r0⟩ := trodAll_cons hA
  obtain ⟨v1, vs1, d1, ds1, p1, q1, rfl, rfl, rfl, h1, r1⟩ := trodAll_cons r0
  obtain ⟨v2, vs2, d2, ds2, p2, q2, rfl, rfl, rfl, h2, r2⟩ := trodAll_cons r1
  obtain ⟨v3, vs3, d3, ds3, p3, q3, rfl, rfl, rfl, h3, r3⟩ := trodAll_cons r2
  obtain ⟨v4, vs4, d4, ds4, p4, q4, rfl, rfl, rfl, h4, r4⟩ := trodAll_cons r3
  obtain ⟨v5, vs5, d5, ds5, p5, q5, rfl, rfl, rfl, h5, r5⟩ := trodAll_cons r4
  obtain ⟨v6, vs6, d6, ds6, p6, q6, rfl, rfl, rfl, h6, r6⟩ := trodAll_cons r5
  obtain ⟨rfl, rfl, rfl⟩ := trodAll_nil r6
  obtain rfl : args = #[v0, v1, v2, v3, v4, v5, v6] := by cases args; simp_all
  obtain ⟨rfl, rfl⟩ := trodVars_none hV
  have k0 := h0
  have lt0 : ∀ x ∈ p0, x.block < W.heap.size := by obtain ⟨m, hm⟩ := k0; exact DataW.trod_lt m _ _ _ hm
  obtain ⟨x0, y0, rfl, bx0, by0⟩ := inst_in (hval 0 25 v0 rfl rfl) h0
  have k1 := h1
  have lt1 : ∀ x ∈ p1, x.block < W.heap.size := by obtain ⟨m, hm⟩ := k1; exact DataW.trod_lt m _ _ _ hm
  obtain ⟨x1, y1, rfl, bx1, by1⟩ := inst_in (hval 1 25 v1 rfl rfl) h1
  have k2 := h2
  have lt2 : ∀ x ∈ p2, x.block < W.heap.size := by obtain ⟨m, hm⟩ := k2; exact DataW.trod_lt m _ _ _ hm
  obtain ⟨x2, y2, rfl, bx2, by2⟩ := inst_in (hval 2 25 v2 rfl rfl) h2
  have k3 := h3
  have lt3 : ∀ x ∈ p3, x.block < W.heap.size := by obtain ⟨m, hm⟩ := k3; exact DataW.trod_lt m _ _ _ hm
  obtain ⟨x3, y3, rfl, bx3, by3⟩ := ballot_in (hval 3 35 v3 rfl rfl) h3
  have k4 := h4
  have lt4 : ∀ x ∈ p4, x.block < W.heap.size := by obtain ⟨m, hm⟩ := k4; exact DataW.trod_lt m _ _ _ hm
  obtain ⟨x4, y4, rfl, bx4, by4⟩ := ballot_in (hval 4 35 v4 rfl rfl) h4
  have k5 := h5
  have lt5 : ∀ x ∈ p5, x.block < W.heap.size := by obtain ⟨m, hm⟩ := k5; exact DataW.trod_lt m _ _ _ hm
  obtain ⟨x5, y5, rfl, bx5, by5⟩ := ballot_in (hval 5 35 v5 rfl rfl) h5
  obtain ⟨a6, rfl, rfl, rfl, w6⟩ := open_int Try.underlying3 (hval 6 3 v6 rfl rfl) h6
  clear hA0 hval0
  refine (walk x0 y0 x1 y1 x2 y2 x3 y3 x4 y4 x5 y5 a6 W bx0 by0 bx1 by1 bx2 by2 bx3 by3 bx4 by4 bx5 by5 (bounds_i64 w6)).mono fun e W' ⟨he, bel⟩ => ?_
  subst he
  exact ⟨_, rfl, _, _, _, [], _, [], hW', trodAll_mk1 (shut_bool Try.underlying4 _), (trodAll_cons_mk (Below.trod laidOut (by kernel_rfl) (of_decide_eq_true (by kernel_rfl)) k0 bel lt0) (trodAll_cons_mk (Below.trod laidOut (by kernel_rfl) (of_decide_eq_true (by kernel_rfl)) k1 bel lt1) (trodAll_cons_mk (Below.trod laidOut (by kernel_rfl) (of_decide_eq_true (by kernel_rfl)) k2 bel lt2) (trodAll_cons_mk (Below.trod laidOut (by kernel_rfl) (of_decide_eq_true (by kernel_rfl)) k3 bel lt3) (trodAll_cons_mk (Below.trod laidOut (by kernel_rfl) (of_decide_eq_true (by kernel_rfl)) k4 bel lt4) (trodAll_cons_mk (Below.trod laidOut (by kernel_rfl) (of_decide_eq_true (by kernel_rfl)) k5 bel lt5) (trodAll_cons_mk (shut_int Try.underlying3 w6) trodAll_mk0))))))), rfl, bel.frame _, fun h => by cases h⟩
theorem over : Rows.instOrderRow.holds Try.pinned (OpenSpec.ofChange Rows.instOrderSpec) :=
  OpenClaim.holds_of_wide 6 Try.f6 rfl rfl rfl rfl rfl rfl rfl ⟨rfl, rfl, rfl, rfl, rfl⟩ rfl rfl rfl rfl rfl (by kernel_rfl) Try.func6 (by kernel_rfl)
    (of_decide_eq_true (by kernel_rfl)) (by unfold Func.isWrapper; first | (rw [if_pos (by decide +kernel)]; kernel_rfl) | (rw [if_neg (by decide +kernel)]; exact ⟨rfl, rfl⟩))
    (fun os started H enc _ => lifted os started H enc)
theorem proved : Rows.InstOrderSaid := over
end Go.Proofs.Ytnbknhgfjjgcjaa.instOrder
