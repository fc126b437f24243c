/- Proved: the law DepsReach returns true. Conditions: none beyond the row's own. -/
import Derived.Test.YtpngcocmjbkfgaaFrame
import Derived.Test.YtpngcocmjbkfgaaRuns
import Derived.Test.YtpngcocmjbkfgaaCov
import Derived.Test.YtpngcocmjbkfgaaArgs8
import Derived.Test.YtpngcocmjbkfgaaReachp
import Derived.Test.YtpngcocmjbkfgaaWithin
import Derived.Deep.DeepCutAuto
namespace Go.Proofs.Ytpngcocmjbkfgaa.depsReach
open Go.ChangeShapes Go.WideShapes Go.ChangeAt Go.RowKit
theorem set_mixD (d e : List Int) {k : Nat} (h : k < 7) : (cA (mixD d e k)).setIfInBounds k (.int .i64 (ix e k)) = cA (mixD d e (k + 1)) := by
  match k, h with
  | 0, _ => rfl
  | 1, _ => rfl
  | 2, _ => rfl
  | 3, _ => rfl
  | 4, _ => rfl
  | 5, _ => rfl
  | 6, _ => rfl
theorem mixD_at (d e : List Int) {k : Nat} (h : k < 7) : ix (mixD d e k) k = ix d k ∧ ix (mixD d e (k + 1)) k = ix e k := by
  match k, h with
  | 0, _ => exact ⟨rfl, rfl⟩
  | 1, _ => exact ⟨rfl, rfl⟩
  | 2, _ => exact ⟨rfl, rfl⟩
  | 3, _ => exact ⟨rfl, rfl⟩
  | 4, _ => exact ⟨rfl, rfl⟩
  | 5, _ => exact ⟨rfl, rfl⟩
  | 6, _ => exact ⟨rfl, rfl⟩
/-- While it goes on: the row of slots, the instance. -/
structure Bd (W w : World) (d : List Int) (x y : Int) : Prop where
  low : Below W.heap.size W w
  d : Row w W.heap.size 23 (cA d)
  i : Row w (W.heap.size + 1) 34 #[.int .i64 x, .int .i64 y]
theorem Bd.step {W w w' : World} {d : List Int} {x y : Int} (h : Bd W w d x y) (hb : Below w.heap.size w w') : Bd W w' d x y := ⟨kept_trans h.low hb, h.d.below hb h.d.lt, h.i.below hb h.i.lt⟩
theorem Bd.put {W w : World} {d d' : List Int} {x y : Int} (h : Bd W w d x y) (k : Nat) (v : Value) (he : (cA d).setIfInBounds k v = cA d') : Bd W (w.setCell ⟨W.heap.size, k, none⟩ v) d' x y :=
  ⟨h.low.setCell (Nat.le_refl _) v, he ▸ h.d.put k v, (Below.heap_setCell w ⟨W.heap.size, k, none⟩ v (W.heap.size + 1) (by show W.heap.size + 1 ≠ W.heap.size; omega)).trans h.i⟩
/-- .. and the slice that List told. -/
structure Bl (W w : World) (d : List Int) (x y : Int) (A : Option Addr) (l : List (List Int)) : Prop where
  b : Bd W w d x y
  l : Its 2 w A l
theorem Bl.step {W w w' : World} {d : List Int} {x y : Int} {A : Option Addr} {l : List (List Int)} (h : Bl W w d x y A l) (hb : Below w.heap.size w w') : Bl W w' d x y A l := ⟨h.b.step hb, h.l.below hb⟩
theorem Bl.drew {W w : World} {d : List Int} {x y : Int} {A : Option Addr} {l : List (List Int)} (h : Bl W w d x y A l) : Bl W w.drew d x y A l := h.step (kept_drewN (kept_refl w) 1)
theorem seven_cA {w : World} {g : Nat} {t : TypeId} {x1 x2 x3 x4 x5 x6 x7 : Int} (h : Row w g t (cA [x1, x2, x3, x4, x5, x6, x7])) : w.cell? ⟨g, 0, none⟩ = some (.int .i64 x1) ∧ w.cell? ⟨g, 1, none⟩ = some (.int .i64 x2) ∧ w.cell? ⟨g, 2, none⟩ = some (.int .i64 x3) ∧ w.cell? ⟨g, 3, none⟩ = some (.int .i64 x4) ∧ w.cell? ⟨g, 4, none⟩ = some (.int .i64 x5) ∧ w.cell? ⟨g, 5, none⟩ = some (.int .i64 x6) ∧ w.cell? ⟨g, 6, none⟩ = some (.int .i64 x7) :=
  ⟨h.cell 0, h.cell 1, h.cell 2, h.cell 3, h.cell 4, h.cell 5, h.cell 6⟩
theorem Bl.item {W w : World} {d : List Int} {x y : Int} {b off : Nat} {l : List (List Int)} (h : Bl W w d x y (some ⟨b, off, none⟩) l) {k : Nat} {r s : Int} (hk : l[k]? = some [r, s]) : w.cell? ⟨b, off + k * 2, none⟩ = some (.int .i64 r) ∧ w.cell? ⟨b, off + k * 2 + 1, none⟩ = some (.int .i64 s) := by
  obtain ⟨b', off', e, _, hc⟩ := h.l.at_ hk
  injection e with e
  injection e with e1 e2
  subst e1 e2
  exact ⟨hc 0 (by omega), hc 1 (by omega)⟩
set_option maxRecDepth 100000 in
set_option maxHeartbeats 8000000 in
theorem walk (d1 d2 d3 d4 d5 d6 d7 x y : Int) (W : World) (_ : ∀ n, n ∈ [d1, d2, d3, d4, d5, d6, d7] → I64 n) (_ : -9223372036854775808 ≤ x ∧ x ≤ 9223372036854775807) (_ : -9223372036854775808 ≤ y ∧ y ≤ 9223372036854775807) :
    Calls Try.prog 6 #[.agg #[.int .i64 d1, .int .i64 d2, .int .i64 d3, .int .i64 d4, .int .i64 d5, .int .i64 d6, .int .i64 d7], .agg #[.int .i64 x, .int .i64 y]] W fun e w' => e = .returned (.bool true) ∧ Below W.heap.size W w' := by
  obtain ⟨e1, e2, e3, e4, e5, e6, e7, hE⟩ : ∃ e1 e2 e3 e4 e5 e6 e7 : Int, [e1, e2, e3, e4, e5, e6, e7] = [withinI d1 0 60, withinI d2 0 60, withinI d3 0 60, withinI d4 0 60, withinI d5 0 60, withinI d6 0 60, withinI d7 0 60] := ⟨_, _, _, _, _, _, _, rfl⟩
  have hix : ∀ k, k < 7 → ix [e1, e2, e3, e4, e5, e6, e7] k = withinI (ix [d1, d2, d3, d4, d5, d6, d7] k) 0 60 := fun k hk => by
    rw [hE]
    match k, hk with
    | 0, _ => rfl
    | 1, _ => rfl
    | 2, _ => rfl
    | 3, _ => rfl
    | 4, _ => rfl
    | 5, _ => rfl
    | 6, _ => rfl
  have hlow : Low [e1, e2, e3, e4, e5, e6, e7] := fun k hk => by rw [hix k hk]; exact withinI_bounds _ 0 60 (by omega)
  have HIX := hide hix
  have HLOW := hide hlow
  have hmx : ∀ n, n ∈ [e1, e2, e3, e4, e5, e6, e7] → n ≤ 9223372036854775807 := fun n hn => by
    obtain ⟨k, hk, rfl⟩ := List.mem_iff_getElem.1 hn
    have := hlow k (by simpa using hk)
    rw [ix_lt _ hk] at this
    omega
  have HMX := hide hmx
  clear hE hix hlow hmx
  have ST := hide (show Bd W ((W.alloc (.cells (cA [d1, d2, d3, d4, d5, d6, d7]) 23)).alloc (.cells #[.int .i64 x, .int .i64 y] 34)) [d1, d2, d3, d4, d5, d6, d7] x y from
    ⟨kept_alloc (kept_alloc (kept_refl W) _) _, (Row.new W _ _).alloc _, by have h := Row.new (W.alloc (.cells (cA [d1, d2, d3, d4, d5, d6, d7]) 23)) 34 #[.int .i64 x, .int .i64 y]; simpa using h⟩)
  go_enter Try.func6, Try.ntmps6
  go_wp2
  go_loopw [5, 6] (fun n i wr => ∃ k : Nat, k ≤ 7 ∧ i = .int .i64 k ∧ n = .int .i64 (sumTo [e1, e2, e3, e4, e5, e6, e7] k) ∧ Hid (Bd W wr (mixD [d1, d2, d3, d4, d5, d6, d7] [e1, e2, e3, e4, e5, e6, e7] k) x y)) (fun _ i _ => 7 - (intOf i).toNat)
  case atStart => exact ⟨0, by omega, rfl, rfl, ST⟩
  case round =>
    clear ST
    obtain ⟨k, hk, rfl, rfl, J⟩ := hrel
    by_cases hlt : k < 7
    · have hb := HLOW.out k hlt
      have hs := sumTo_bounds HLOW.out k (by omega)
      have HS := hide (show sumTo [e1, e2, e3, e4, e5, e6, e7] (k + 1) = sumTo [e1, e2, e3, e4, e5, e6, e7] k + ix [e1, e2, e3, e4, e5, e6, e7] k from rfl)
      have hwi := hide (fun w => HIX.out k hlt ▸ within_any (ix [d1, d2, d3, d4, d5, d6, d7] k) 0 60 w (by omega) (by omega) (by omega))
      have f0 := row_cA J.out.d k hlt
      rw [(mixD_at [d1, d2, d3, d4, d5, d6, d7] [e1, e2, e3, e4, e5, e6, e7] hlt).1] at f0
      have g0 := J.out.d.free k
      have J1 := hide (J.out.put k (.int .i64 (ix [e1, e2, e3, e4, e5, e6, e7] k)) (set_mixD _ _ hlt))
      have f1 := row_cA J1.out.d k hlt
      rw [(mixD_at [d1, d2, d3, d4, d5, d6, d7] [e1, e2, e3, e4, e5, e6, e7] hlt).2] at f1
      have F1 := hide f1
      clear J f1
      generalize ix [e1, e2, e3, e4, e5, e6, e7] k = ek at hb HS hwi J1 F1
      generalize ix [d1, d2, d3, d4, d5, d6, d7] k = dk at hwi f0
      generalize sumTo [e1, e2, e3, e4, e5, e6, e7] k = sk at hs HS ⊢
      have k7 : (k : Int) < 7 := by omega
      have hs2 : sk ≤ 420 := by omega
      go_upto_region 6 with (go_at_call 24; refine (hwi.out _).mono ?_; rintro e w' ⟨rfl, rfl⟩)
      clear f0 g0
      have f1 := F1.out
      generalize World.setCell wr _ _ = w1 at J1 f1 ⊢
      go_wp2
      go_roundw
      case rel => exact ⟨k + 1, by omega, by go_num, by rw [HS.out], J1⟩
      case measure => simp [intOf]; omega
    · obtain rfl : k = 7 := by omega
      have J1 : Hid (Bd W wr [e1, e2, e3, e4, e5, e6, e7] x y) := J
      have fd := seven_cA J1.out.d
      have HN := hide (listD_len HLOW.out)
      have hs := sumTo_bounds HLOW.out 7 (by omega)
      have HRI := hide (fun (k : Nat) (x y : List Int) => listD_rise HLOW.out (k := k) (x := x) (y := y))
      have HTW := hide (fun (k : Nat) (x : List Int) => listD_two HLOW.out (k := k) (x := x))
      have HRE := hide (listD_reach HLOW.out x y)
      have hlist := hide (fun w => list_any e1 e2 e3 e4 e5 e6 e7 0 0 0 0 0 0 0 w HMX.out)
      replace hlist : Hid (∀ w, Calls Try.prog 12 #[.agg #[.int .i64 e1, .int .i64 e2, .int .i64 e3, .int .i64 e4, .int .i64 e5, .int .i64 e6, .int .i64 e7], .agg #[.int .i64 0, .int .i64 0, .int .i64 0, .int .i64 0, .int .i64 0, .int .i64 0, .int .i64 0]] w fun e w' => Told w w' e (listD [e1, e2, e3, e4, e5, e6, e7] zero7)) := hlist
      generalize sumTo [e1, e2, e3, e4, e5, e6, e7] 7 = S at HN hs ⊢
      have hl7 : ((listD [e1, e2, e3, e4, e5, e6, e7] zero7).length : Int) ≤ 420 := by rw [HN.out]; omega
      generalize listD [e1, e2, e3, e4, e5, e6, e7] zero7 = l at HN HRI HTW HRE hlist hl7
      clear J HIX HMX
      go_upto_region 8 with (go_at_call 12; refine (hlist.out _).mono ?_; rintro e wl ⟨A, c, rfl, hI, hbl⟩)
      have B := hide (show Bl W wl [e1, e2, e3, e4, e5, e6, e7] x y A l from ⟨J1.out.step hbl, hI⟩)
      clear J1 fd hlist hI hbl
      go_wp2
      go_loopw [8, 9] (fun t i wr => ∃ k : Nat, k ≤ l.length ∧ i = .int .i64 k ∧ t = .bool (decide ([x, y] ∈ l.take k)) ∧ Hid (Bl W wr [e1, e2, e3, e4, e5, e6, e7] x y A l)) (fun _ i _ => l.length - (intOf i).toNat)
      case atStart => exact ⟨0, by omega, rfl, by simp, B⟩
      case round =>
        clear B
        obtain ⟨wo, rfl⟩ : ∃ wo : World, wo = wr := ⟨_, rfl⟩
        obtain ⟨k, hk, rfl, rfl, B⟩ := hrel
        by_cases hlt : k < l.length
        · obtain ⟨z, hz⟩ : ∃ z, l[k]? = some z := ⟨_, List.getElem?_eq_getElem hlt⟩
          obtain ⟨r, s, rfl, hre⟩ := HTW.out _ _ hz
          obtain ⟨b, off, rfl, _, _⟩ := B.out.l.at_ hz
          have HE1 := hide (fun (w' : World) (h : Bl W w' [e1, e2, e3, e4, e5, e6, e7] x y (some ⟨b, off, none⟩) l) => h.item hz)
          have HT : Hid (∀ q, sameB r s x y = q → decide ([x, y] ∈ l.take (k + 1)) = (decide ([x, y] ∈ l.take k) || q)) := fun q hq => by
            rw [take_snoc hz, ← hq, same_iff, Bool.eq_iff_iff, Bool.or_eq_true, decide_eq_true_iff, decide_eq_true_iff, decide_eq_true_iff, List.mem_append, List.mem_singleton]
            exact or_congr Iff.rfl ⟨Eq.symm, Eq.symm⟩
          have hreach := hide (fun w => reach_any e1 e2 e3 e4 e5 e6 e7 r s w)
          rw [hre] at hreach
          have hkl : (k : Int) < l.length := by omega
          have hk0 : (0 : Int) ≤ k := by omega
          have hkm : (k : Int) ≤ 420 := by omega
          have hp : ∃ p, decide ([x, y] ∈ l.take k) = p := ⟨_, rfl⟩
          obtain ⟨p, hp⟩ := hp
          rw [hp] at HT ⊢
          clear hp hre
          have KR := B
          clear B
          by_cases h0 : k = 0
          · have hkd : decide ((0 : Int) < (k : Int)) = false := decide_eq_false (by omega)
            have hkp : decide (0 < k) = false := decide_eq_false (by omega)
            clear HRI HTW hz h0
            go_upto_region 12 with (fail)
            refine wp_region_noPanic ?_
            refine wp_region_held_drew (S := (fun w' => Bl W w' [e1, e2, e3, e4, e5, e6, e7] x y (some ⟨b, off, none⟩) l)) (by kernel_rfl) KR.out.drew (fun hx => ?_)
            clear hx
            have KN := hide (And.intro KR.out.drew (Rows.none_ (w := World.drew wo)))
            generalize World.drew wo = w0 at KN ⊢
            clear KR
            have K0 := KN
            clear KN
            refine wpAnyH_take (i := 0) (v := ?hgva0) (by simp only [List.getElem?_toArray, List.getElem?_cons_zero]; exact rfl) (by kernel_rfl) (by kernel_rfl) (by kernel_rfl) (fun _ _ _ h => h) (Or.inl ⟨by rfl, ?hgya0⟩) K0.out.1 ?hgra0
            case hgya0 => (intro wh hSw; replace hSw := And.intro (seven_cA hSw.b.d) (And.intro (HE1.out _ hSw) trivial); go_simp; all_goals (with_reducible rfl))
            try simp only [Act.put, List.setIfInBounds_toArray, List.set_cons_zero, List.set_cons_succ]
            refine wpAnyH_take (i := 1) (v := ?hgva1) (by simp only [List.getElem?_toArray, List.getElem?_cons_succ, List.getElem?_cons_zero]; exact rfl) (by kernel_rfl) (by kernel_rfl) (by kernel_rfl) (fun _ _ _ h => h) (Or.inl ⟨by rfl, ?hgya1⟩) K0.out.1 ?hgra1
            case hgya1 => (intro wh hSw; replace hSw := And.intro (seven_cA hSw.b.d) (And.intro (HE1.out _ hSw) trivial); go_simp; all_goals (with_reducible rfl))
            try simp only [Act.put, List.setIfInBounds_toArray, List.set_cons_zero, List.set_cons_succ]
            refine wpAnyH_take (i := 2) (v := ?hgva2) (by simp only [List.getElem?_toArray, List.getElem?_cons_succ, List.getElem?_cons_zero]; exact rfl) (by kernel_rfl) (by kernel_rfl) (by kernel_rfl) (fun _ _ _ h => h) (Or.inl ⟨by rfl, ?hgya2⟩) K0.out.1 ?hgra2
            case hgya2 => (intro wh hSw; replace hSw := And.intro (seven_cA hSw.b.d) (And.intro (HE1.out _ hSw) trivial); go_simp; all_goals (with_reducible rfl))
            try simp only [Act.put, List.setIfInBounds_toArray, List.set_cons_zero, List.set_cons_succ]
            refine wpAnyH_take (i := 3) (v := ?hgva3) (by simp only [List.getElem?_toArray, List.getElem?_cons_succ, List.getElem?_cons_zero]; exact rfl) (by kernel_rfl) (by kernel_rfl) (by kernel_rfl) (fun _ _ _ h => h) (Or.inl ⟨by rfl, ?hgya3⟩) K0.out.1 ?hgra3
            case hgya3 => (intro wh hSw; replace hSw := And.intro (seven_cA hSw.b.d) (And.intro (HE1.out _ hSw) trivial); go_simp; all_goals (with_reducible rfl))
            try simp only [Act.put, List.setIfInBounds_toArray, List.set_cons_zero, List.set_cons_succ]
            refine wpAnyH_take (i := 4) (v := ?hgva4) (by simp only [List.getElem?_toArray, List.getElem?_cons_succ, List.getElem?_cons_zero]; exact rfl) (by kernel_rfl) (by kernel_rfl) (by kernel_rfl) (fun _ _ _ h => h) (Or.inl ⟨by rfl, ?hgya4⟩) K0.out.1 ?hgra4
            case hgya4 => (intro wh hSw; replace hSw := And.intro (seven_cA hSw.b.d) (And.intro (HE1.out _ hSw) trivial); go_simp; all_goals (with_reducible rfl))
            try simp only [Act.put, List.setIfInBounds_toArray, List.set_cons_zero, List.set_cons_succ]
            refine wpAnyH_ready (rs := [5]) (by kernel_rfl) (by simp) ?_
            refine AllReadyH.cons (by simp only [List.getElem?_toArray, List.getElem?_cons_succ, List.getElem?_cons_zero]; exact rfl) (fun K hK => ?_) AllReadyH.nil
            go_simp
            refine (hreach.out w0).mono ?_
            rintro e w1 ⟨rfl, hb⟩
            have K1 := hide (And.intro (K0.out.1.step hb) (K0.out.2.below hb))
            refine hK.out _ _ K1.out.1 (fun hx => ?_)
            clear hx hK K K0 hb
            try simp only [List.setIfInBounds_toArray, List.set_cons_zero, List.set_cons_succ]
            clear w0
            refine wpAnyH_take (i := 6) (v := ?hgva6) (by simp only [List.getElem?_toArray, List.getElem?_cons_succ, List.getElem?_cons_zero]; exact rfl) (by kernel_rfl) (by kernel_rfl) (by kernel_rfl) (fun _ _ _ h => h) (Or.inl ⟨by rfl, ?hgya6⟩) K1.out.1 ?hgra6
            case hgya6 => (intro wh hSw; replace hSw := And.intro (seven_cA hSw.b.d) (And.intro (HE1.out _ hSw) trivial); go_simp; all_goals (with_reducible rfl))
            try simp only [Act.put, List.setIfInBounds_toArray, List.set_cons_zero, List.set_cons_succ]
            refine wpAnyH_take (i := 7) (v := ?hgva7) (by simp only [List.getElem?_toArray, List.getElem?_cons_succ, List.getElem?_cons_zero]; exact rfl) (by kernel_rfl) (by kernel_rfl) (by kernel_rfl) (fun _ _ _ h => h) (Or.inl ⟨by rfl, ?hgya7⟩) K1.out.1 ?hgra7
            case hgya7 => (intro wh hSw; replace hSw := And.intro (seven_cA hSw.b.d) (And.intro (HE1.out _ hSw) trivial); go_simp; all_goals (with_reducible rfl))
            try simp only [Act.put, List.setIfInBounds_toArray, List.set_cons_zero, List.set_cons_succ]
            refine wpAnyH_take (i := 8) (v := ?hgva8) (by simp only [List.getElem?_toArray, List.getElem?_cons_succ, List.getElem?_cons_zero]; exact rfl) (by kernel_rfl) (by kernel_rfl) (by kernel_rfl) (fun _ _ _ h => h) (Or.inl ⟨by rfl, ?hgya8⟩) K1.out.1 ?hgra8
            case hgya8 => (intro wh hSw; replace hSw := And.intro (seven_cA hSw.b.d) (And.intro (HE1.out _ hSw) trivial); go_simp; all_goals (with_reducible rfl))
            try simp only [Act.put, List.setIfInBounds_toArray, List.set_cons_zero, List.set_cons_succ]
            refine wpAnyH_take (i := 9) (v := ?hgva9) (by simp only [List.getElem?_toArray, List.getElem?_cons_succ, List.getElem?_cons_zero]; exact rfl) (by kernel_rfl) (by kernel_rfl) (by kernel_rfl) (fun _ _ _ h => h) (Or.inl ⟨by rfl, ?hgya9⟩) K1.out.1 ?hgra9
            case hgya9 => (intro wh hSw; replace hSw := And.intro (seven_cA hSw.b.d) (And.intro (HE1.out _ hSw) trivial); go_simp; all_goals (with_reducible rfl))
            try simp only [Act.put, List.setIfInBounds_toArray, List.set_cons_zero, List.set_cons_succ]
            refine wpAnyH_take (i := 10) (v := ?hgva10) (by simp only [List.getElem?_toArray, List.getElem?_cons_succ, List.getElem?_cons_zero]; exact rfl) (by kernel_rfl) (by kernel_rfl) (by kernel_rfl) (fun _ _ _ h => h) (Or.inl ⟨by rfl, ?hgya10⟩) K1.out.1 ?hgra10
            case hgya10 => (intro wh hSw; replace hSw := And.intro (seven_cA hSw.b.d) (And.intro (HE1.out _ hSw) trivial); go_simp; all_goals (with_reducible rfl))
            try simp only [Act.put, List.setIfInBounds_toArray, List.set_cons_zero, List.set_cons_succ]
            refine wpAnyH_take (i := 11) (v := undef) (by simp only [List.getElem?_toArray, List.getElem?_cons_succ, List.getElem?_cons_zero]; exact rfl) (by kernel_rfl) (by kernel_rfl) (by kernel_rfl) (fun _ _ _ h => h) (Or.inr ⟨by rfl, rfl⟩) K1.out.1 ?_
            try simp only [Act.put, List.setIfInBounds_toArray, List.set_cons_zero, List.set_cons_succ]
            refine wpAnyH_take (i := 12) (v := undef) (by simp only [List.getElem?_toArray, List.getElem?_cons_succ, List.getElem?_cons_zero]; exact rfl) (by kernel_rfl) (by kernel_rfl) (by kernel_rfl) (fun _ _ _ h => h) (Or.inr ⟨by rfl, rfl⟩) K1.out.1 ?_
            try simp only [Act.put, List.setIfInBounds_toArray, List.set_cons_zero, List.set_cons_succ]
            refine wpAnyH_take (i := 13) (v := undef) (by simp only [List.getElem?_toArray, List.getElem?_cons_succ, List.getElem?_cons_zero]; exact rfl) (by kernel_rfl) (by kernel_rfl) (by kernel_rfl) (fun _ _ _ h => h) (Or.inr ⟨by rfl, rfl⟩) K1.out.1 ?_
            try simp only [Act.put, List.setIfInBounds_toArray, List.set_cons_zero, List.set_cons_succ]
            refine wpAnyH_take (i := 14) (v := undef) (by simp only [List.getElem?_toArray, List.getElem?_cons_succ, List.getElem?_cons_zero]; exact rfl) (by kernel_rfl) (by kernel_rfl) (by kernel_rfl) (fun _ _ _ h => h) (Or.inr ⟨by rfl, rfl⟩) K1.out.1 ?_
            try simp only [Act.put, List.setIfInBounds_toArray, List.set_cons_zero, List.set_cons_succ]
            refine wpAnyH_take (i := 15) (v := undef) (by simp only [List.getElem?_toArray, List.getElem?_cons_succ, List.getElem?_cons_zero]; exact rfl) (by kernel_rfl) (by kernel_rfl) (by kernel_rfl) (fun _ _ _ h => h) (Or.inr ⟨by rfl, rfl⟩) K1.out.1 ?_
            try simp only [Act.put, List.setIfInBounds_toArray, List.set_cons_zero, List.set_cons_succ]
            refine wpAnyH_take (i := 16) (v := undef) (by simp only [List.getElem?_toArray, List.getElem?_cons_succ, List.getElem?_cons_zero]; exact rfl) (by kernel_rfl) (by kernel_rfl) (by kernel_rfl) (fun _ _ _ h => h) (Or.inr ⟨by rfl, rfl⟩) K1.out.1 ?_
            try simp only [Act.put, List.setIfInBounds_toArray, List.set_cons_zero, List.set_cons_succ]
            refine wpAnyH_take (i := 17) (v := undef) (by simp only [List.getElem?_toArray, List.getElem?_cons_succ, List.getElem?_cons_zero]; exact rfl) (by kernel_rfl) (by kernel_rfl) (by kernel_rfl) (fun _ _ _ h => h) (Or.inr ⟨by rfl, rfl⟩) K1.out.1 ?_
            try simp only [Act.put, List.setIfInBounds_toArray, List.set_cons_zero, List.set_cons_succ]
            refine wpAnyH_take (i := 18) (v := undef) (by simp only [List.getElem?_toArray, List.getElem?_cons_succ, List.getElem?_cons_zero]; exact rfl) (by kernel_rfl) (by kernel_rfl) (by kernel_rfl) (fun _ _ _ h => h) (Or.inr ⟨by rfl, rfl⟩) K1.out.1 ?_
            try simp only [Act.put, List.setIfInBounds_toArray, List.set_cons_zero, List.set_cons_succ]
            refine wpAnyH_take (i := 19) (v := undef) (by simp only [List.getElem?_toArray, List.getElem?_cons_succ, List.getElem?_cons_zero]; exact rfl) (by kernel_rfl) (by kernel_rfl) (by kernel_rfl) (fun _ _ _ h => h) (Or.inr ⟨by rfl, rfl⟩) K1.out.1 ?_
            try simp only [Act.put, List.setIfInBounds_toArray, List.set_cons_zero, List.set_cons_succ]
            refine wpAnyH_take (i := 20) (v := undef) (by simp only [List.getElem?_toArray, List.getElem?_cons_succ, List.getElem?_cons_zero]; exact rfl) (by kernel_rfl) (by kernel_rfl) (by kernel_rfl) (fun _ _ _ h => h) (Or.inr ⟨by rfl, rfl⟩) K1.out.1 ?_
            try simp only [Act.put, List.setIfInBounds_toArray, List.set_cons_zero, List.set_cons_succ]
            refine wpAnyH_take (i := 21) (v := undef) (by simp only [List.getElem?_toArray, List.getElem?_cons_succ, List.getElem?_cons_zero]; exact rfl) (by kernel_rfl) (by kernel_rfl) (by kernel_rfl) (fun _ _ _ h => h) (Or.inr ⟨by rfl, rfl⟩) K1.out.1 ?_
            try simp only [Act.put, List.setIfInBounds_toArray, List.set_cons_zero, List.set_cons_succ]
            refine wpAnyH_take (i := 22) (v := ?hgva22) (by simp only [List.getElem?_toArray, List.getElem?_cons_succ, List.getElem?_cons_zero]; exact rfl) (by kernel_rfl) (by kernel_rfl) (by kernel_rfl) (fun _ _ _ h => h) (Or.inl ⟨by rfl, ?hgya22⟩) K1.out.1 ?hgra22
            case hgya22 => (intro wh hSw; replace hSw := And.intro (seven_cA hSw.b.d) (And.intro (HE1.out _ hSw) trivial); go_simp; all_goals (with_reducible rfl))
            try simp only [Act.put, List.setIfInBounds_toArray, List.set_cons_zero, List.set_cons_succ]
            refine wpAnyH_take (i := 23) (v := ?hgva23) (by simp only [List.getElem?_toArray, List.getElem?_cons_succ, List.getElem?_cons_zero]; exact rfl) (by kernel_rfl) (by kernel_rfl) (by kernel_rfl) (fun _ _ _ h => h) (Or.inl ⟨by rfl, ?hgya23⟩) K1.out.1 ?hgra23
            case hgya23 => (intro wh hSw; replace hSw := And.intro (seven_cA hSw.b.d) (And.intro (HE1.out _ hSw) trivial); go_simp; all_goals (with_reducible rfl))
            try simp only [Act.put, List.setIfInBounds_toArray, List.set_cons_zero, List.set_cons_succ]
            refine wpAnyH_done (by kernel_rfl) ?_ _
            refine NoPanic.normal ?_
            have B := hide K1.out.1
            clear K1 hreach
            generalize w1 = wa at B ⊢
            clear hkd hkp
            have HE := HE1.out _ B.out
            have fi := B.out.b.i.two
            obtain ⟨q, hq⟩ : ∃ q, sameB r s x y = q := ⟨_, rfl⟩
            have heq := fun w => eql_inst r s x y w
            rw [hq] at heq
            have HT2 := hide (HT.out q hq)
            clear HT hq
            cases p
            all_goals
              go_wp2
              go_quiet (fail)
              go_wp2
              go_roundw
              case rel => exact ⟨k + 1, by omega, by go_num, by rw [HT2.out]; simp, B.out.step (kept_drewN (kept_refl _) _)⟩
              case measure => simp [intOf]; omega
          · obtain ⟨z', hz'⟩ : ∃ z, l[k - 1]? = some z := ⟨_, List.getElem?_eq_getElem (by omega)⟩
            obtain ⟨r', s', rfl, _⟩ := HTW.out _ _ hz'
            have hri := HRI.out _ _ _ hz' (by rw [show k - 1 + 1 = k by omega]; exact hz)
            have hless := hide (fun w => refless_any r' s' r s w)
            rw [show ltP (r', s') (r, s) = true from hri] at hless
            have HE2 := hide (fun (w' : World) (h : Bl W w' [e1, e2, e3, e4, e5, e6, e7] x y (some ⟨b, off, none⟩) l) => h.item hz')
            have hkd : decide ((0 : Int) < (k : Int)) = true := decide_eq_true (by omega)
            have hkp : (0 : Nat) < k := by omega
            have hsub : IntKind.i64.wrap ((k : Int) - 1) = (k : Int) - 1 := IntWalk.i64_in _ (by omega)
            have hsub2 : (0 : Int) ≤ (k : Int) - 1 := by omega
            have hsub3 : ((k : Int) - 1).toNat = k - 1 := by omega
            have hsub4 : (k : Int) - 1 < l.length := by omega
            have hsub5 : (1 : Int) ≤ k := by omega
            clear HRI HTW hz hz' hri h0
            go_upto_region 12 with (fail)
            refine wp_region_noPanic ?_
            refine wp_region_held_drew (S := (fun w' => Bl W w' [e1, e2, e3, e4, e5, e6, e7] x y (some ⟨b, off, none⟩) l)) (by kernel_rfl) KR.out.drew (fun hx => ?_)
            clear hx
            have KN := hide (And.intro KR.out.drew (Rows.none_ (w := World.drew wo)))
            generalize World.drew wo = w0 at KN ⊢
            clear KR
            have K0 := KN
            clear KN
            refine wpAnyH_take (i := 0) (v := ?hgvb0) (by simp only [List.getElem?_toArray, List.getElem?_cons_zero]; exact rfl) (by kernel_rfl) (by kernel_rfl) (by kernel_rfl) (fun _ _ _ h => h) (Or.inl ⟨by rfl, ?hgyb0⟩) K0.out.1 ?hgrb0
            case hgyb0 => (intro wh hSw; replace hSw := And.intro (seven_cA hSw.b.d) (And.intro (HE1.out _ hSw) (HE2.out _ hSw)); go_simp; all_goals (with_reducible rfl))
            try simp only [Act.put, List.setIfInBounds_toArray, List.set_cons_zero, List.set_cons_succ]
            refine wpAnyH_take (i := 1) (v := ?hgvb1) (by simp only [List.getElem?_toArray, List.getElem?_cons_succ, List.getElem?_cons_zero]; exact rfl) (by kernel_rfl) (by kernel_rfl) (by kernel_rfl) (fun _ _ _ h => h) (Or.inl ⟨by rfl, ?hgyb1⟩) K0.out.1 ?hgrb1
            case hgyb1 => (intro wh hSw; replace hSw := And.intro (seven_cA hSw.b.d) (And.intro (HE1.out _ hSw) (HE2.out _ hSw)); go_simp; all_goals (with_reducible rfl))
            try simp only [Act.put, List.setIfInBounds_toArray, List.set_cons_zero, List.set_cons_succ]
            refine wpAnyH_take (i := 2) (v := ?hgvb2) (by simp only [List.getElem?_toArray, List.getElem?_cons_succ, List.getElem?_cons_zero]; exact rfl) (by kernel_rfl) (by kernel_rfl) (by kernel_rfl) (fun _ _ _ h => h) (Or.inl ⟨by rfl, ?hgyb2⟩) K0.out.1 ?hgrb2
            case hgyb2 => (intro wh hSw; replace hSw := And.intro (seven_cA hSw.b.d) (And.intro (HE1.out _ hSw) (HE2.out _ hSw)); go_simp; all_goals (with_reducible rfl))
            try simp only [Act.put, List.setIfInBounds_toArray, List.set_cons_zero, List.set_cons_succ]
            refine wpAnyH_take (i := 3) (v := ?hgvb3) (by simp only [List.getElem?_toArray, List.getElem?_cons_succ, List.getElem?_cons_zero]; exact rfl) (by kernel_rfl) (by kernel_rfl) (by kernel_rfl) (fun _ _ _ h => h) (Or.inl ⟨by rfl, ?hgyb3⟩) K0.out.1 ?hgrb3
            case hgyb3 => (intro wh hSw; replace hSw := And.intro (seven_cA hSw.b.d) (And.intro (HE1.out _ hSw) (HE2.out _ hSw)); go_simp; all_goals (with_reducible rfl))
            try simp only [Act.put, List.setIfInBounds_toArray, List.set_cons_zero, List.set_cons_succ]
            refine wpAnyH_take (i := 4) (v := ?hgvb4) (by simp only [List.getElem?_toArray, List.getElem?_cons_succ, List.getElem?_cons_zero]; exact rfl) (by kernel_rfl) (by kernel_rfl) (by kernel_rfl) (fun _ _ _ h => h) (Or.inl ⟨by rfl, ?hgyb4⟩) K0.out.1 ?hgrb4
            case hgyb4 => (intro wh hSw; replace hSw := And.intro (seven_cA hSw.b.d) (And.intro (HE1.out _ hSw) (HE2.out _ hSw)); go_simp; all_goals (with_reducible rfl))
            try simp only [Act.put, List.setIfInBounds_toArray, List.set_cons_zero, List.set_cons_succ]
            refine wpAnyH_ready (rs := [5]) (by kernel_rfl) (by simp) ?_
            refine AllReadyH.cons (by simp only [List.getElem?_toArray, List.getElem?_cons_succ, List.getElem?_cons_zero]; exact rfl) (fun K hK => ?_) AllReadyH.nil
            go_simp
            refine (hreach.out w0).mono ?_
            rintro e w1 ⟨rfl, hb⟩
            have K1 := hide (And.intro (K0.out.1.step hb) (K0.out.2.below hb))
            refine hK.out _ _ K1.out.1 (fun hx => ?_)
            clear hx hK K K0 hb
            try simp only [List.setIfInBounds_toArray, List.set_cons_zero, List.set_cons_succ]
            clear w0
            refine wpAnyH_take (i := 6) (v := ?hgvb6) (by simp only [List.getElem?_toArray, List.getElem?_cons_succ, List.getElem?_cons_zero]; exact rfl) (by kernel_rfl) (by kernel_rfl) (by kernel_rfl) (fun _ _ _ h => h) (Or.inl ⟨by rfl, ?hgyb6⟩) K1.out.1 ?hgrb6
            case hgyb6 => (intro wh hSw; replace hSw := And.intro (seven_cA hSw.b.d) (And.intro (HE1.out _ hSw) (HE2.out _ hSw)); go_simp; all_goals (with_reducible rfl))
            try simp only [Act.put, List.setIfInBounds_toArray, List.set_cons_zero, List.set_cons_succ]
            refine wpAnyH_take (i := 7) (v := ?hgvb7) (by simp only [List.getElem?_toArray, List.getElem?_cons_succ, List.getElem?_cons_zero]; exact rfl) (by kernel_rfl) (by kernel_rfl) (by kernel_rfl) (fun _ _ _ h => h) (Or.inl ⟨by rfl, ?hgyb7⟩) K1.out.1 ?hgrb7
            case hgyb7 => (intro wh hSw; replace hSw := And.intro (seven_cA hSw.b.d) (And.intro (HE1.out _ hSw) (HE2.out _ hSw)); go_simp; all_goals (with_reducible rfl))
            try simp only [Act.put, List.setIfInBounds_toArray, List.set_cons_zero, List.set_cons_succ]
            refine wpAnyH_take (i := 8) (v := ?hgvb8) (by simp only [List.getElem?_toArray, List.getElem?_cons_succ, List.getElem?_cons_zero]; exact rfl) (by kernel_rfl) (by kernel_rfl) (by kernel_rfl) (fun _ _ _ h => h) (Or.inl ⟨by rfl, ?hgyb8⟩) K1.out.1 ?hgrb8
            case hgyb8 => (intro wh hSw; replace hSw := And.intro (seven_cA hSw.b.d) (And.intro (HE1.out _ hSw) (HE2.out _ hSw)); go_simp; all_goals (with_reducible rfl))
            try simp only [Act.put, List.setIfInBounds_toArray, List.set_cons_zero, List.set_cons_succ]
            refine wpAnyH_take (i := 9) (v := ?hgvb9) (by simp only [List.getElem?_toArray, List.getElem?_cons_succ, List.getElem?_cons_zero]; exact rfl) (by kernel_rfl) (by kernel_rfl) (by kernel_rfl) (fun _ _ _ h => h) (Or.inl ⟨by rfl, ?hgyb9⟩) K1.out.1 ?hgrb9
            case hgyb9 => (intro wh hSw; replace hSw := And.intro (seven_cA hSw.b.d) (And.intro (HE1.out _ hSw) (HE2.out _ hSw)); go_simp; all_goals (with_reducible rfl))
            try simp only [Act.put, List.setIfInBounds_toArray, List.set_cons_zero, List.set_cons_succ]
            refine wpAnyH_take (i := 10) (v := ?hgvb10) (by simp only [List.getElem?_toArray, List.getElem?_cons_succ, List.getElem?_cons_zero]; exact rfl) (by kernel_rfl) (by kernel_rfl) (by kernel_rfl) (fun _ _ _ h => h) (Or.inl ⟨by rfl, ?hgyb10⟩) K1.out.1 ?hgrb10
            case hgyb10 => (intro wh hSw; replace hSw := And.intro (seven_cA hSw.b.d) (And.intro (HE1.out _ hSw) (HE2.out _ hSw)); go_simp; all_goals (with_reducible rfl))
            try simp only [Act.put, List.setIfInBounds_toArray, List.set_cons_zero, List.set_cons_succ]
            refine wpAnyH_take (i := 11) (v := ?hgvb11) (by simp only [List.getElem?_toArray, List.getElem?_cons_succ, List.getElem?_cons_zero]; exact rfl) (by kernel_rfl) (by kernel_rfl) (by kernel_rfl) (fun _ _ _ h => h) (Or.inl ⟨by rfl, ?hgyb11⟩) K1.out.1 ?hgrb11
            case hgyb11 => (intro wh hSw; replace hSw := And.intro (seven_cA hSw.b.d) (And.intro (HE1.out _ hSw) (HE2.out _ hSw)); go_simp; all_goals (with_reducible rfl))
            try simp only [Act.put, List.setIfInBounds_toArray, List.set_cons_zero, List.set_cons_succ]
            refine wpAnyH_take (i := 12) (v := ?hgvb12) (by simp only [List.getElem?_toArray, List.getElem?_cons_succ, List.getElem?_cons_zero]; exact rfl) (by kernel_rfl) (by kernel_rfl) (by kernel_rfl) (fun _ _ _ h => h) (Or.inl ⟨by rfl, ?hgyb12⟩) K1.out.1 ?hgrb12
            case hgyb12 => (intro wh hSw; replace hSw := And.intro (seven_cA hSw.b.d) (And.intro (HE1.out _ hSw) (HE2.out _ hSw)); go_simp; all_goals (with_reducible rfl))
            try simp only [Act.put, List.setIfInBounds_toArray, List.set_cons_zero, List.set_cons_succ]
            refine wpAnyH_take (i := 13) (v := ?hgvb13) (by simp only [List.getElem?_toArray, List.getElem?_cons_succ, List.getElem?_cons_zero]; exact rfl) (by kernel_rfl) (by kernel_rfl) (by kernel_rfl) (fun _ _ _ h => h) (Or.inl ⟨by rfl, ?hgyb13⟩) K1.out.1 ?hgrb13
            case hgyb13 => (intro wh hSw; replace hSw := And.intro (seven_cA hSw.b.d) (And.intro (HE1.out _ hSw) (HE2.out _ hSw)); go_simp; all_goals (with_reducible rfl))
            try simp only [Act.put, List.setIfInBounds_toArray, List.set_cons_zero, List.set_cons_succ]
            refine wpAnyH_take (i := 14) (v := ?hgvb14) (by simp only [List.getElem?_toArray, List.getElem?_cons_succ, List.getElem?_cons_zero]; exact rfl) (by kernel_rfl) (by kernel_rfl) (by kernel_rfl) (fun _ _ _ h => h) (Or.inl ⟨by rfl, ?hgyb14⟩) K1.out.1 ?hgrb14
            case hgyb14 => (intro wh hSw; replace hSw := And.intro (seven_cA hSw.b.d) (And.intro (HE1.out _ hSw) (HE2.out _ hSw)); go_simp; all_goals (with_reducible rfl))
            try simp only [Act.put, List.setIfInBounds_toArray, List.set_cons_zero, List.set_cons_succ]
            refine wpAnyH_take (i := 15) (v := ?hgvb15) (by simp only [List.getElem?_toArray, List.getElem?_cons_succ, List.getElem?_cons_zero]; exact rfl) (by kernel_rfl) (by kernel_rfl) (by kernel_rfl) (fun _ _ _ h => h) (Or.inl ⟨by rfl, ?hgyb15⟩) K1.out.1 ?hgrb15
            case hgyb15 => (intro wh hSw; replace hSw := And.intro (seven_cA hSw.b.d) (And.intro (HE1.out _ hSw) (HE2.out _ hSw)); go_simp; all_goals (with_reducible rfl))
            try simp only [Act.put, List.setIfInBounds_toArray, List.set_cons_zero, List.set_cons_succ]
            refine wpAnyH_take (i := 16) (v := ?hgvb16) (by simp only [List.getElem?_toArray, List.getElem?_cons_succ, List.getElem?_cons_zero]; exact rfl) (by kernel_rfl) (by kernel_rfl) (by kernel_rfl) (fun _ _ _ h => h) (Or.inl ⟨by rfl, ?hgyb16⟩) K1.out.1 ?hgrb16
            case hgyb16 => (intro wh hSw; replace hSw := And.intro (seven_cA hSw.b.d) (And.intro (HE1.out _ hSw) (HE2.out _ hSw)); go_simp; all_goals (with_reducible rfl))
            try simp only [Act.put, List.setIfInBounds_toArray, List.set_cons_zero, List.set_cons_succ]
            refine wpAnyH_take (i := 17) (v := ?hgvb17) (by simp only [List.getElem?_toArray, List.getElem?_cons_succ, List.getElem?_cons_zero]; exact rfl) (by kernel_rfl) (by kernel_rfl) (by kernel_rfl) (fun _ _ _ h => h) (Or.inl ⟨by rfl, ?hgyb17⟩) K1.out.1 ?hgrb17
            case hgyb17 => (intro wh hSw; replace hSw := And.intro (seven_cA hSw.b.d) (And.intro (HE1.out _ hSw) (HE2.out _ hSw)); go_simp; all_goals (with_reducible rfl))
            try simp only [Act.put, List.setIfInBounds_toArray, List.set_cons_zero, List.set_cons_succ]
            refine wpAnyH_take (i := 18) (v := ?hgvb18) (by simp only [List.getElem?_toArray, List.getElem?_cons_succ, List.getElem?_cons_zero]; exact rfl) (by kernel_rfl) (by kernel_rfl) (by kernel_rfl) (fun _ _ _ h => h) (Or.inl ⟨by rfl, ?hgyb18⟩) K1.out.1 ?hgrb18
            case hgyb18 => (intro wh hSw; replace hSw := And.intro (seven_cA hSw.b.d) (And.intro (HE1.out _ hSw) (HE2.out _ hSw)); go_simp; all_goals (with_reducible rfl))
            try simp only [Act.put, List.setIfInBounds_toArray, List.set_cons_zero, List.set_cons_succ]
            refine wpAnyH_take (i := 19) (v := ?hgvb19) (by simp only [List.getElem?_toArray, List.getElem?_cons_succ, List.getElem?_cons_zero]; exact rfl) (by kernel_rfl) (by kernel_rfl) (by kernel_rfl) (fun _ _ _ h => h) (Or.inl ⟨by rfl, ?hgyb19⟩) K1.out.1 ?hgrb19
            case hgyb19 => (intro wh hSw; replace hSw := And.intro (seven_cA hSw.b.d) (And.intro (HE1.out _ hSw) (HE2.out _ hSw)); go_simp; all_goals (with_reducible rfl))
            try simp only [Act.put, List.setIfInBounds_toArray, List.set_cons_zero, List.set_cons_succ]
            refine wpAnyH_ready (rs := [20]) (by kernel_rfl) (by simp) ?_
            refine AllReadyH.cons (by simp only [List.getElem?_toArray, List.getElem?_cons_succ, List.getElem?_cons_zero]; exact rfl) (fun K hK => ?_) AllReadyH.nil
            go_simp
            refine (hless.out w1).mono ?_
            rintro e w2 ⟨rfl, hb⟩
            have K2 := hide (And.intro (K1.out.1.step hb) (K1.out.2.below hb))
            refine hK.out _ _ K2.out.1 (fun hx => ?_)
            clear hx hK K K1 hb
            try simp only [List.setIfInBounds_toArray, List.set_cons_zero, List.set_cons_succ]
            clear w1
            refine wpAnyH_take (i := 21) (v := ?hgvb21) (by simp only [List.getElem?_toArray, List.getElem?_cons_succ, List.getElem?_cons_zero]; exact rfl) (by kernel_rfl) (by kernel_rfl) (by kernel_rfl) (fun _ _ _ h => h) (Or.inl ⟨by rfl, ?hgyb21⟩) K2.out.1 ?hgrb21
            case hgyb21 => (intro wh hSw; replace hSw := And.intro (seven_cA hSw.b.d) (And.intro (HE1.out _ hSw) (HE2.out _ hSw)); go_simp; all_goals (with_reducible rfl))
            try simp only [Act.put, List.setIfInBounds_toArray, List.set_cons_zero, List.set_cons_succ]
            refine wpAnyH_take (i := 22) (v := ?hgvb22) (by simp only [List.getElem?_toArray, List.getElem?_cons_succ, List.getElem?_cons_zero]; exact rfl) (by kernel_rfl) (by kernel_rfl) (by kernel_rfl) (fun _ _ _ h => h) (Or.inl ⟨by rfl, ?hgyb22⟩) K2.out.1 ?hgrb22
            case hgyb22 => (intro wh hSw; replace hSw := And.intro (seven_cA hSw.b.d) (And.intro (HE1.out _ hSw) (HE2.out _ hSw)); go_simp; all_goals (with_reducible rfl))
            try simp only [Act.put, List.setIfInBounds_toArray, List.set_cons_zero, List.set_cons_succ]
            refine wpAnyH_take (i := 23) (v := ?hgvb23) (by simp only [List.getElem?_toArray, List.getElem?_cons_succ, List.getElem?_cons_zero]; exact rfl) (by kernel_rfl) (by kernel_rfl) (by kernel_rfl) (fun _ _ _ h => h) (Or.inl ⟨by rfl, ?hgyb23⟩) K2.out.1 ?hgrb23
            case hgyb23 => (intro wh hSw; replace hSw := And.intro (seven_cA hSw.b.d) (And.intro (HE1.out _ hSw) (HE2.out _ hSw)); go_simp; all_goals (with_reducible rfl))
            try simp only [Act.put, List.setIfInBounds_toArray, List.set_cons_zero, List.set_cons_succ]
            refine wpAnyH_done (by kernel_rfl) ?_ _
            refine NoPanic.normal ?_
            have B := hide K2.out.1
            clear K2 hreach
            generalize w2 = wa at B ⊢
            clear hkd hkp hsub hsub2 hsub3 hsub4 hsub5 HE2 hless
            have HE := HE1.out _ B.out
            have fi := B.out.b.i.two
            obtain ⟨q, hq⟩ : ∃ q, sameB r s x y = q := ⟨_, rfl⟩
            have heq := fun w => eql_inst r s x y w
            rw [hq] at heq
            have HT2 := hide (HT.out q hq)
            clear HT hq
            cases p
            all_goals
              go_wp2
              go_quiet (fail)
              go_wp2
              go_roundw
              case rel => exact ⟨k + 1, by omega, by go_num, by rw [HT2.out]; simp, B.out.step (kept_drewN (kept_refl _) _)⟩
              case measure => simp [intOf]; omega
        · obtain rfl : k = l.length := by omega
          rw [List.take_length]
          have hre : reachB [e1, e2, e3, e4, e5, e6, e7] x y = decide ([x, y] ∈ l) := by
            rw [Bool.eq_iff_iff, decide_eq_true_iff]; exact HRE.out.symm
          have hreach := hide (fun w => reach_any e1 e2 e3 e4 e5 e6 e7 x y w)
          rw [hre] at hreach
          have hlen : ((l.length : Int) == S) = true := by rw [HN.out]; simp
          have fd := seven_cA B.out.b.d
          have fi := B.out.b.i.two
          generalize decide ([x, y] ∈ l) = p at hreach ⊢
          clear hre HRE HN HRI HTW
          cases p
          all_goals
            go_wp2_with (first
              | (go_at_call 14; refine (hreach.out _).mono ?_; rintro e w' ⟨rfl, hb⟩; replace B := hide (B.out.step hb); clear fd fi hb)
              | (go_at_call 3; (with_reducible refine (runs_any _).mono ?_); rintro e w' ⟨rfl, hb⟩; replace B := hide (B.out.step hb); clear hb))
            go_ret
            exact ⟨rfl, B.out.b.low⟩
set_option maxRecDepth 100000 in
theorem lifted (os : Os) (started : os.Started) (H : Type) (enc : TypeId × Value → H) :
    ReturnsInHanded {} Try.checked os 6 .any (Rows.depsReachSpec.pre6 enc Try.prog Try.f6 Rows.depsReachRow.domain false) (Rows.depsReachSpec.post enc Try.prog Try.f6 false true false false) := by
  refine returnsInHanded_of_change (C := Try.checked) own started (by kernel_rfl) Try.func6
    (ChangeSpec.witness6 (enc := enc) (C := Try.checked) false ⟨#[], #[.agg #[.int .i64 0, .int .i64 0, .int .i64 0, .int .i64 0, .int .i64 0, .int .i64 0, .int .i64 0], .agg #[.int .i64 0, .int .i64 0]], []⟩ 8 (by kernel_rfl) (by kernel_rfl) (by kernel_rfl) (by kernel_rfl)) ?_
  intro W base args ds gs before hval0 hW _ _
  have hval : ∀ (j : Nat) t v, Try.f6.params[j]? = some t → args[j]? = some v → Value.okWide Try.prog W .any base t v := hval0
  have hW' := hW
  obtain ⟨p, q, hA0, hV, rfl, _, _⟩ := hW
  have hA : DataW.TrodAll enc Try.prog W 0 (fun _ => true) true Try.f6.params.toList args.toList ds p := hA0
  rw [Try.params6] at hA hval
  obtain ⟨v0, vs0, d0, ds0, p0, q0, hargs, rfl, rfl, h0, r0⟩ := trodAll_cons hA
  obtain ⟨v1, vs1, d1, ds1, p1, q1, rfl, rfl, rfl, h1, r1⟩ := trodAll_cons r0
  obtain ⟨rfl, rfl, rfl⟩ := trodAll_nil r1
  obtain rfl : args = #[v0, v1] := by cases args; simp_all
  obtain ⟨rfl, rfl⟩ := trodVars_none hV
  have k0 := h0
  have lt0 : ∀ x ∈ p0, x.block < W.heap.size := by obtain ⟨m, hm⟩ := k0; exact DataW.trod_lt m _ _ _ hm
  obtain ⟨e0x1, e0x2, e0x3, e0x4, e0x5, e0x6, e0x7, rfl, s0⟩ := deps_in (hval 0 23 v0 rfl rfl) h0
  have k1 := h1
  have lt1 : ∀ x ∈ p1, x.block < W.heap.size := by obtain ⟨m, hm⟩ := k1; exact DataW.trod_lt m _ _ _ hm
  obtain ⟨x1, y1, rfl, bx1, by1⟩ := inst_in (hval 1 34 v1 rfl rfl) h1
  clear hA0 hval0
  refine (walk e0x1 e0x2 e0x3 e0x4 e0x5 e0x6 e0x7 x1 y1 W s0 bx1 by1).mono fun e W' ⟨he, bel⟩ => ?_
  subst he
  exact ⟨_, rfl, _, _, _, [], _, [], hW', trodAll_mk1 (shut_bool Try.underlying4 _), (trodAll_cons_mk (Below.trod laidOut (by kernel_rfl) (of_decide_eq_true (by kernel_rfl)) k0 bel lt0) (trodAll_cons_mk (Below.trod laidOut (by kernel_rfl) (of_decide_eq_true (by kernel_rfl)) k1 bel lt1) trodAll_mk0)), rfl, bel.frame _, fun h => by cases h⟩
theorem over : Rows.depsReachRow.holds Try.pinned (OpenSpec.ofChange Rows.depsReachSpec) :=
  OpenClaim.holds_of_wide 6 Try.f6 rfl rfl rfl rfl rfl rfl rfl ⟨rfl, rfl, rfl, rfl, rfl⟩ rfl rfl rfl rfl rfl (by kernel_rfl) Try.func6 (by kernel_rfl)
    (of_decide_eq_true (by kernel_rfl)) (by unfold Func.isWrapper; first | (rw [if_pos (by decide +kernel)]; kernel_rfl) | (rw [if_neg (by decide +kernel)]; exact ⟨rfl, rfl⟩))
    (fun os started H enc _ => lifted os started H enc)
theorem proved : Rows.DepsReachSaid := over
end Go.Proofs.Ytpngcocmjbkfgaa.depsReach
