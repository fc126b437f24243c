/- The document's Most: its contract. Conditions: the slice has room. -/
import Derived.Test.YtpngcocmjbkfgaaMost
import Derived.Test.YtpngcocmjbkfgaaEq8
namespace Go.Proofs.Ytpngcocmjbkfgaa
open Go.RowKit Go.Maps
/-- While it goes on: the answer's block, the one that was found. -/
structure Mr (W w : World) (x : List Int) : Prop where
  low : Below W.heap.size W w
  res : Row w W.heap.size 25 (cA zero8)
  v : Row w (W.heap.size + 1) 25 (cA x)
section
variable {W w w' : World} {x : List Int}
theorem Mr.drewN (h : Mr W w x) (n : Nat) : Mr W (w.drewN n) x := ⟨kept_drewN h.low n, h.res.drewN n, h.v.drewN n⟩
theorem Mr.eight (h : Mr W w x) {y : List Int} (v0 v1 v2 v3 v4 v5 v6 v7 : Value) (hx : x.length = 8) (hy : cA y = #[v0, v1, v2, v3, v4, v5, v6, v7]) :
    Mr W ((((((((w.setCell ⟨W.heap.size + 1, 0, none⟩ v0).setCell ⟨W.heap.size + 1, 1, none⟩ v1).setCell ⟨W.heap.size + 1, 2, none⟩ v2).setCell ⟨W.heap.size + 1, 3, none⟩ v3).setCell ⟨W.heap.size + 1, 4, none⟩ v4).setCell ⟨W.heap.size + 1, 5, none⟩ v5).setCell ⟨W.heap.size + 1, 6, none⟩ v6).setCell ⟨W.heap.size + 1, 7, none⟩ v7) y := by
  obtain ⟨x0, x1, x2, x3, x4, x5, x6, x7, rfl⟩ := len8 hx
  have r := row_eight (w := w) (g := W.heap.size + 1) (t := 25) h.v v0 v1 v2 v3 v4 v5 v6 v7
  have hb : w.grownBy ((((((((w.setCell ⟨W.heap.size + 1, 0, none⟩ v0).setCell ⟨W.heap.size + 1, 1, none⟩ v1).setCell ⟨W.heap.size + 1, 2, none⟩ v2).setCell ⟨W.heap.size + 1, 3, none⟩ v3).setCell ⟨W.heap.size + 1, 4, none⟩ v4).setCell ⟨W.heap.size + 1, 5, none⟩ v5).setCell ⟨W.heap.size + 1, 6, none⟩ v6).setCell ⟨W.heap.size + 1, 7, none⟩ v7) (some (W.heap.size + 1)) :=
    grown_put (grown_put (grown_put (grown_put (grown_put (grown_put (grown_put (grown_put (grown_refl w (some (W.heap.size + 1))) 0 v0) 1 v1) 2 v2) 3 v3) 4 v4) 5 v5) 6 v6) 7 v7
  exact ⟨h.low.grown hb h.low.size (fun k hk => by cases hk; omega), h.res.grown hb (by simp), by rw [hy]; exact r⟩
end
theorem count_take {l : List (List Int)} {j : Nat} {y : List Int} (h : l[j]? = some y) (x : List Int) {p : Bool} (hp : decide (y = x) = p) : (l.take (j + 1)).count x = (l.take j).count x + (if p then 1 else 0) := by
  rw [take_snoc h, count_snoc, ← hp]
  simp
set_option maxRecDepth 100000 in
set_option maxHeartbeats 8000000 in
theorem refmost_any (A : Option Addr) (n c : Nat) (l : List (List Int)) (w : World) (hn : l.length = n) (h8 : All 8 l) (hl : Its 8 w A l) (ln : n ≤ 1000000000) :
    Calls Try.prog 20 #[.slice A n c] w fun e w' => e = .returned (.tuple #[.agg (cA (mostA l).1), .int .i64 ((mostA l).2 : Int)]) ∧ Below w.heap.size w w' := by
  subst hn
  have EL : Hid (∀ (w' : World) k x, Below w.heap.size w w' → l[k]? = some x → ∃ b off, A = some ⟨b, off, none⟩ ∧ Cells8 w' b (off + k * 8) x) := fun w' k x hbw hk => by
    obtain ⟨b', off', e, _, hce⟩ := (hl.below hbw).at_ hk
    exact ⟨b', off', e, eight_at hce⟩
  have H8 := hide h8
  have HL := hide (mostTo_len h8)
  have ST := hide (show Mr w ((w.alloc (.cells (cA zero8) 25)).alloc (.cells (cA zero8) 25)) zero8 from
    ⟨kept_alloc (kept_alloc (kept_refl w) _) _, (Row.new w _ _).alloc _, by have h := Row.new (w.alloc (.cells (cA zero8) 25)) 25 (cA zero8); simpa using h⟩)
  have HA := hide (mostTo_all l)
  generalize mostA l = Z at HA ⊢
  clear hl h8
  go_enter Try.func20, Try.ntmps20
  go_wp2
  go_loopw [5, 6] (fun best i wr => ∃ k : Nat, k ≤ l.length ∧ i = .int .i64 k ∧ best = .int .i64 ((mostTo l k).2 : Int) ∧ Hid (Mr w wr (mostTo l k).1)) (fun _ i _ => l.length - (intOf i).toNat)
  case atStart => exact ⟨0, by omega, rfl, rfl, ST⟩
  case round =>
    obtain ⟨wo, rfl⟩ : ∃ wo : World, wo = wr := ⟨_, rfl⟩
    obtain ⟨k, hk, rfl, rfl, J⟩ := hrel
    obtain ⟨z8, zl⟩ := HL.out k
    by_cases hlt : k < l.length
    · obtain ⟨x, hx⟩ : ∃ x, l[k]? = some x := ⟨_, List.getElem?_eq_getElem hlt⟩
      obtain ⟨x0, x1, x2, x3, x4, x5, x6, x7, rfl⟩ := len8 (H8.out x (List.mem_of_getElem? hx))
      have EX := EL.out wo k _ J.out.low hx
      have HS := hide (mostTo_succ hx)
      unfold mostStep at HS
      have Z8 := hide z8
      have LW := hide J.out.low
      clear hx z8 ST
      generalize mostTo l k = s at HS J Z8 zl ⊢
      go_wp2
      go_loopw [7, 8] (fun cn j wr => ∃ j' q : Nat, j' ≤ l.length ∧ j = .int .i64 j' ∧ cn = .int .i64 ((l.take j').count [x0, x1, x2, x3, x4, x5, x6, x7] : Int) ∧ wr = wo.drewN q) (fun _ j _ => l.length - (intOf j).toNat)
      case atStart => exact ⟨0, 0, by omega, rfl, rfl, rfl⟩
      case round =>
        obtain ⟨j, q, hj, rfl, rfl, rfl⟩ := hrel
        by_cases hjt : j < l.length
        · obtain ⟨y, hy⟩ : ∃ y, l[j]? = some y := ⟨_, List.getElem?_eq_getElem hjt⟩
          obtain ⟨y0, y1, y2, y3, y4, y5, y6, y7, rfl⟩ := len8 (H8.out y (List.mem_of_getElem? hy))
          obtain ⟨b, off, rfl, hx⟩ := EX
          obtain ⟨b', off', e', hy'⟩ := EL.out wo j _ LW.out hy
          injection e' with e'
          injection e' with e1 e2
          subst e1 e2
          obtain ⟨e0, e1, e2, e3, e4, e5, e6, e7⟩ := eight_lit hx
          obtain ⟨k0, k1, k2, k3, k4, k5, k6, k7⟩ := eight_lit hy'
          have heq := fun w => eql_attr y0 y1 y2 y3 y4 y5 y6 y7 x0 x1 x2 x3 x4 x5 x6 x7 w
          have HC : Hid (∀ p, decide ([y0, y1, y2, y3, y4, y5, y6, y7] = [x0, x1, x2, x3, x4, x5, x6, x7]) = p → (l.take (j + 1)).count [x0, x1, x2, x3, x4, x5, x6, x7] = (l.take j).count [x0, x1, x2, x3, x4, x5, x6, x7] + (if p then 1 else 0)) := fun p hp => count_take hy [x0, x1, x2, x3, x4, x5, x6, x7] hp
          have hcl : (l.take j).count [x0, x1, x2, x3, x4, x5, x6, x7] ≤ 1000000000 := Nat.le_trans List.count_le_length (by rw [List.length_take]; omega)
          obtain ⟨p, hp⟩ : ∃ p, decide ([y0, y1, y2, y3, y4, y5, y6, y7] = [x0, x1, x2, x3, x4, x5, x6, x7]) = p := ⟨_, rfl⟩
          have HC2 := hide (HC.out p hp)
          rw [hp] at heq
          clear hx hy' hy HC hp
          generalize (l.take j).count [x0, x1, x2, x3, x4, x5, x6, x7] = m at HC2 hcl ⊢
          cases p
          · go_wp2
            go_quiet (fail)
            go_wp2
            go_roundw
            case rel => exact ⟨j + 1, _, by omega, by go_num, by rw [HC2.out]; rfl, rfl⟩
            case measure => simp [intOf]; omega
          · go_wp2
            go_quiet (fail)
            go_wp2
            go_roundw
            case rel => exact ⟨j + 1, _, by omega, by go_num, by rw [HC2.out]; go_num, rfl⟩
            case measure => simp [intOf]; omega
        · obtain rfl : j = l.length := by omega
          rw [List.take_length]
          have hge : ¬ ((l.length : Int) < (l.length : Int)) := by omega
          have J2 := hide (J.out.drewN q)
          obtain ⟨b, off, rfl, hx⟩ := EX
          obtain ⟨e0, e1, e2, e3, e4, e5, e6, e7⟩ := eight_lit hx
          generalize l.count [x0, x1, x2, x3, x4, x5, x6, x7] = m at HS ⊢
          clear hx J
          by_cases hm : s.2 < m
          · have hs : Hid (mostTo l (k + 1) = ([x0, x1, x2, x3, x4, x5, x6, x7], m)) := by have := HS.out; rw [if_pos hm] at this; exact this
            have KN := hide (J2.out.eight (y := [x0, x1, x2, x3, x4, x5, x6, x7]) (.int .i64 x0) (.int .i64 x1) (.int .i64 x2) (.int .i64 x3) (.int .i64 x4) (.int .i64 x5) (.int .i64 x6) (.int .i64 x7) Z8.out rfl)
            obtain ⟨y0, y1, y2, y3, y4, y5, y6, y7, hy⟩ := len8 Z8.out
            obtain ⟨k0, k1, k2, k3, k4, k5, k6, k7⟩ := J2.out.v.eight
            rw [hy] at k0 k1 k2 k3 k4 k5 k6 k7
            replace k0 : (wo.drewN q).cell? ⟨w.heap.size + 1, 0, none⟩ = some (.int .i64 y0) := k0
            replace k1 : (wo.drewN q).cell? ⟨w.heap.size + 1, 1, none⟩ = some (.int .i64 y1) := k1
            replace k2 : (wo.drewN q).cell? ⟨w.heap.size + 1, 2, none⟩ = some (.int .i64 y2) := k2
            replace k3 : (wo.drewN q).cell? ⟨w.heap.size + 1, 3, none⟩ = some (.int .i64 y3) := k3
            replace k4 : (wo.drewN q).cell? ⟨w.heap.size + 1, 4, none⟩ = some (.int .i64 y4) := k4
            replace k5 : (wo.drewN q).cell? ⟨w.heap.size + 1, 5, none⟩ = some (.int .i64 y5) := k5
            replace k6 : (wo.drewN q).cell? ⟨w.heap.size + 1, 6, none⟩ = some (.int .i64 y6) := k6
            replace k7 : (wo.drewN q).cell? ⟨w.heap.size + 1, 7, none⟩ = some (.int .i64 y7) := k7
            obtain ⟨g0, g1, g2, g3, g4, g5, g6, g7⟩ := J2.out.v.free8
            clear hy J2 HS
            have hm' : decide (s.2 < m) = true := by simpa using hm
            go_wp2
            go_roundw
            case rel => exact ⟨k + 1, by omega, by go_num, by rw [hs.out], by rw [hs.out]; exact KN⟩
            case measure => simp [intOf]; omega
          · have hs : Hid (mostTo l (k + 1) = s) := by have := HS.out; rw [if_neg hm] at this; exact this
            have hm' : decide (s.2 < m) = false := by simpa using hm
            clear HS
            go_wp2
            go_roundw
            case rel => exact ⟨k + 1, by omega, by go_num, by rw [hs.out], by rw [hs.out]; exact J2⟩
            case measure => simp [intOf]; omega
    · obtain rfl : k = l.length := by omega
      rw [HA.out] at J z8 ⊢
      have hge : ¬ ((l.length : Int) < (l.length : Int)) := by omega
      obtain ⟨z0, z1, z2, z3, z4, z5, z6, z7, hz⟩ := len8 z8
      have J' := hide J.out
      have jv := J.out.v
      rw [hz] at jv
      obtain ⟨e0, e1, e2, e3, e4, e5, e6, e7⟩ := jv.eight
      replace e0 : wo.cell? ⟨w.heap.size + 1, 0, none⟩ = some (.int .i64 z0) := e0
      replace e1 : wo.cell? ⟨w.heap.size + 1, 1, none⟩ = some (.int .i64 z1) := e1
      replace e2 : wo.cell? ⟨w.heap.size + 1, 2, none⟩ = some (.int .i64 z2) := e2
      replace e3 : wo.cell? ⟨w.heap.size + 1, 3, none⟩ = some (.int .i64 z3) := e3
      replace e4 : wo.cell? ⟨w.heap.size + 1, 4, none⟩ = some (.int .i64 z4) := e4
      replace e5 : wo.cell? ⟨w.heap.size + 1, 5, none⟩ = some (.int .i64 z5) := e5
      replace e6 : wo.cell? ⟨w.heap.size + 1, 6, none⟩ = some (.int .i64 z6) := e6
      replace e7 : wo.cell? ⟨w.heap.size + 1, 7, none⟩ = some (.int .i64 z7) := e7
      obtain ⟨k0, k1, k2, k3, k4, k5, k6, k7⟩ := J'.out.res.eight
      replace k0 : wo.cell? ⟨w.heap.size, 0, none⟩ = some (.int .i64 0) := k0
      replace k1 : wo.cell? ⟨w.heap.size, 1, none⟩ = some (.int .i64 0) := k1
      replace k2 : wo.cell? ⟨w.heap.size, 2, none⟩ = some (.int .i64 0) := k2
      replace k3 : wo.cell? ⟨w.heap.size, 3, none⟩ = some (.int .i64 0) := k3
      replace k4 : wo.cell? ⟨w.heap.size, 4, none⟩ = some (.int .i64 0) := k4
      replace k5 : wo.cell? ⟨w.heap.size, 5, none⟩ = some (.int .i64 0) := k5
      replace k6 : wo.cell? ⟨w.heap.size, 6, none⟩ = some (.int .i64 0) := k6
      replace k7 : wo.cell? ⟨w.heap.size, 7, none⟩ = some (.int .i64 0) := k7
      obtain ⟨g0, g1, g2, g3, g4, g5, g6, g7⟩ := J'.out.res.free8
      have HZ := hide hz
      clear jv J hz z8 zl
      go_wp2
      refine bodyPost_ret (results_two8 Try.results20 rfl rfl (row_eight J'.out.res _ _ _ _ _ _ _ _)) rfl ⟨?_, below_eight J'.out.low (Nat.le_refl _) _ _ _ _ _ _ _ _⟩
      rw [HZ.out]; rfl
end Go.Proofs.Ytpngcocmjbkfgaa
