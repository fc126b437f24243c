/- Most of package deps: its contract. Conditions: the slice has room. -/
import Derived.Test.YtpngcocmjbkfgaaCnt
namespace Go.Proofs.Ytpngcocmjbkfgaa
open Go.RowKit Go.Maps
/-- While Most goes on: the answer's block, the map's. -/
structure Mw (W w : World) (m : List (List Int)) : Prop where
  low : Below W.heap.size W w
  res : Row w W.heap.size 25 (cA zero8)
  cnt : Cnt w (W.heap.size + 1) m
section
variable {W w w' : World} {m m' : List (List Int)}
theorem Mw.alloc (h : Mw W w m) (o : Obj) : Mw W (w.alloc o) m := ⟨kept_alloc h.low o, h.res.alloc o, h.cnt.alloc o⟩
theorem Mw.drew (h : Mw W w m) : Mw W w.drew m := ⟨kept_drewN h.low 1, h.res.drew, h.cnt.drew⟩
theorem Mw.turn (h : Mw W w m) (hc : Cnt w' (W.heap.size + 1) m') (hg : w.grownBy w' (some (W.heap.size + 1))) : Mw W w' m' :=
  ⟨h.low.grown hg h.low.size (fun k hk => by cases hk; omega), h.res.grown hg (by simp), hc⟩
end
/-- .. and, behind the first loop, the one that was found, in a block of its own. -/
structure Mv (W w : World) (m : List (List Int)) (g : Nat) (x : List Int) : Prop where
  m : Mw W w m
  v : Row w g 25 (cA x)
  gt : W.heap.size + 1 < g
section
variable {W w w' : World} {m : List (List Int)} {g : Nat} {x : List Int}
theorem Mv.alloc (h : Mv W w m g x) (o : Obj) : Mv W (w.alloc o) m g x := ⟨h.m.alloc o, h.v.alloc o, h.gt⟩
theorem Mv.drew (h : Mv W w m g x) : Mv W w.drew m g x := ⟨h.m.drew, h.v.drew, h.gt⟩
theorem Mw.below (h : Mw W w m) (hb : Below w.heap.size w w') : Mw W w' m := ⟨kept_trans h.low hb, h.res.below hb h.res.lt, h.cnt.below hb⟩
theorem Mv.eight (h : Mv W w m g x) {y : List Int} (v0 v1 v2 v3 v4 v5 v6 v7 : Value) (hx : x.length = 8) (hy : cA y = #[v0, v1, v2, v3, v4, v5, v6, v7]) :
    Mv W ((((((((w.setCell ⟨g, 0, none⟩ v0).setCell ⟨g, 1, none⟩ v1).setCell ⟨g, 2, none⟩ v2).setCell ⟨g, 3, none⟩ v3).setCell ⟨g, 4, none⟩ v4).setCell ⟨g, 5, none⟩ v5).setCell ⟨g, 6, none⟩ v6).setCell ⟨g, 7, none⟩ v7) m g y := by
  obtain ⟨x0, x1, x2, x3, x4, x5, x6, x7, rfl⟩ := len8 hx
  have r := row_eight (w := w) (g := g) (t := 25) h.v v0 v1 v2 v3 v4 v5 v6 v7
  have hgt := h.gt
  have hb : w.grownBy ((((((((w.setCell ⟨g, 0, none⟩ v0).setCell ⟨g, 1, none⟩ v1).setCell ⟨g, 2, none⟩ v2).setCell ⟨g, 3, none⟩ v3).setCell ⟨g, 4, none⟩ v4).setCell ⟨g, 5, none⟩ v5).setCell ⟨g, 6, none⟩ v6).setCell ⟨g, 7, none⟩ v7) (some g) :=
    grown_put (grown_put (grown_put (grown_put (grown_put (grown_put (grown_put (grown_put (grown_refl w (some g)) 0 v0) 1 v1) 2 v2) 3 v3) 4 v4) 5 v5) 6 v6) 7 v7
  refine ⟨⟨h.m.low.grown hb h.m.low.size (fun k hk => by cases hk; omega), h.m.res.grown hb (by simp; omega), h.m.cnt.grown hb (by simp; omega)⟩, by rw [hy]; exact r, hgt⟩
end
theorem results_two8 {fn : Func} {p q : Tmp} {tmps : Array Value} {w : World} {g : Nat} {t : TypeId} {v0 v1 v2 v3 v4 v5 v6 v7 u : Value} (hf : fn.results = #[.cell p 25, .tmp q]) (hp : tmps.getD p undef = .pointer (some ⟨g, 0, none⟩)) (hq : tmps.getD q undef = u)
    (hr : Row w g t #[v0, v1, v2, v3, v4, v5, v6, v7]) : (results fn tmps).run Try.prog w = .ok (.tuple #[.agg #[v0, v1, v2, v3, v4, v5, v6, v7], u]) w := by
  have hl := run_loadVar_row (P := Try.prog) w g t 25 #[v0, v1, v2, v3, v4, v5, v6, v7] (0, 0) _ hr Try.underlying25 rfl (by kernel_rfl)
  simp only [Array.getD_eq_getD_getElem?] at hp hq
  simp [results, hf, hp, hq, asAddr, hl]
set_option maxRecDepth 100000 in
set_option maxHeartbeats 8000000 in
theorem most_any (A : Option Addr) (n c : Nat) (l : List (List Int)) (w : World) (hn : l.length = n) (h8 : ∀ x, x ∈ l → Ok8 x) (hl : Its 8 w A l) (hc : n ≤ c) (ln : n ≤ 1000000000) :
    Calls Try.prog 11 #[.slice A n c] w fun e w' => e = .returned (.tuple #[.agg (cA (mostA l).1), .int .i64 ((mostA l).2 : Int)]) ∧ Below w.heap.size w w' := by
  subst hn
  have hmm := @run_makeMap Try.prog
  have EL : Hid (∀ (w' : World) k x, Below w.heap.size w w' → l[k]? = some x → ∃ b off, A = some ⟨b, off, none⟩ ∧ Cells8 w' b (off + k * 8) x) := fun w' k x hbw hk => by
    obtain ⟨b', off', e, _, hce⟩ := (hl.below hbw).at_ hk
    exact ⟨b', off', e, eight_at hce⟩
  have H8 := hide h8
  have HL := hide (mostTo_len (l := l) (fun x hx => (h8 x hx).len))
  have ST := hide (show Mw w ((w.alloc (.cells (cA zero8) 25)).alloc (.map #[] 0)) [] from
    ⟨kept_alloc (kept_alloc (kept_refl w) _) _, (Row.new w _ _).alloc _, by have h := Cnt.new (w.alloc (.cells (cA zero8) 25)); simpa using h⟩)
  have HA := hide (mostTo_all l)
  generalize mostA l = Z at HA ⊢
  clear hl h8
  go_enter Try.func11, Try.ntmps11
  go_wp2
  go_loopw [14] (fun i wr => ∃ k : Nat, k ≤ l.length ∧ i = .int .i64 k ∧ Hid (Mw w wr (l.take k))) (fun i _ => l.length - (intOf i).toNat)
  case atStart => exact ⟨0, by omega, rfl, ST⟩
  case round =>
    obtain ⟨k, hk, rfl, J⟩ := hrel
    by_cases hlt : k < l.length
    · obtain ⟨x, hx⟩ : ∃ x, l[k]? = some x := ⟨_, List.getElem?_eq_getElem hlt⟩
      have hx8 := H8.out x (List.mem_of_getElem? hx)
      obtain ⟨x0, x1, x2, x3, x4, x5, x6, x7, rfl⟩ := len8 hx8.len
      obtain ⟨b, off, rfl, he⟩ := EL.out wr k _ J.out.low hx
      obtain ⟨e0, e1, e2, e3, e4, e5, e6, e7⟩ := eight_lit he
      have J1 := hide (J.out.alloc (.cells (cA [x0, x1, x2, x3, x4, x5, x6, x7]) 25))
      have R1 := hide (Row.new wr 25 (cA [x0, x1, x2, x3, x4, x5, x6, x7]))
      have HS := hide (take_snoc hx)
      have H8x := hide hx8
      have lo : w.heap.size + 1 < wr.heap.size := J.out.cnt.lt
      clear hx he J hx8
      go_upto_region 5 with (fail)
      clear e0 e1 e2 e3 e4 e5 e6 e7
      have KW := hide (And.intro J1.out R1.out)
      clear J1 R1
      replace KW : Hid (Mw w (wr.alloc (.cells #[.int .i64 x0, .int .i64 x1, .int .i64 x2, .int .i64 x3, .int .i64 x4, .int .i64 x5, .int .i64 x6, .int .i64 x7] 25)) (l.take k) ∧ Row (wr.alloc (.cells #[.int .i64 x0, .int .i64 x1, .int .i64 x2, .int .i64 x3, .int .i64 x4, .int .i64 x5, .int .i64 x6, .int .i64 x7] 25)) wr.heap.size 25 #[.int .i64 x0, .int .i64 x1, .int .i64 x2, .int .i64 x3, .int .i64 x4, .int .i64 x5, .int .i64 x6, .int .i64 x7]) := KW
      generalize World.alloc wr _ = w1 at KW ⊢
      have lk : (l.take k).length ≤ 1000000000 := by rw [List.length_take]; omega
      have hcl := List.count_le_length (a := [x0, x1, x2, x3, x4, x5, x6, x7]) (l := l.take k)
      obtain ⟨v0, st, w2, w3, b1, b2, b3, b4, b5, b6⟩ := KW.out.1.drew.cnt.bump H8x.out lk
      have lk0 := KW.out.1.drew.cnt.look H8x.out
      have KN := hide (KW.out.1.drew.turn b5 b6)
      generalize (l.take k).count [x0, x1, x2, x3, x4, x5, x6, x7] = m at hcl b3 b4 b5 b6 lk0 KN
      rw [← HS.out] at KN
      have m0 : (0 : Int) ≤ m := by omega
      have m1 : (m : Int) ≤ 1000000000 := by omega
      obtain ⟨e0, e1, e2, e3, e4, e5, e6, e7⟩ := KW.out.2.drew.eight
      replace e0 : w1.drew.cell? ⟨wr.heap.size, 0, none⟩ = some (.int .i64 x0) := e0
      replace e1 : w1.drew.cell? ⟨wr.heap.size, 1, none⟩ = some (.int .i64 x1) := e1
      replace e2 : w1.drew.cell? ⟨wr.heap.size, 2, none⟩ = some (.int .i64 x2) := e2
      replace e3 : w1.drew.cell? ⟨wr.heap.size, 3, none⟩ = some (.int .i64 x3) := e3
      replace e4 : w1.drew.cell? ⟨wr.heap.size, 4, none⟩ = some (.int .i64 x4) := e4
      replace e5 : w1.drew.cell? ⟨wr.heap.size, 5, none⟩ = some (.int .i64 x5) := e5
      replace e6 : w1.drew.cell? ⟨wr.heap.size, 6, none⟩ = some (.int .i64 x6) := e6
      replace e7 : w1.drew.cell? ⟨wr.heap.size, 7, none⟩ = some (.int .i64 x7) := e7
      clear KW b5 b6 b2 hcl lk
      go_region
      all_goals
        go_wp2
        go_roundw
        case rel => exact ⟨k + 1, by omega, by go_num, KN⟩
        case measure => simp [intOf]; omega
    · obtain rfl : k = l.length := by omega
      rw [List.take_length] at J
      have V0 := hide (show Mv w (wr.alloc (.cells (cA zero8) 25)) l wr.heap.size zero8 from ⟨J.out.alloc _, Row.new wr _ _, J.out.cnt.lt⟩)
      clear J
      go_upto_region 9 with (fail)
      replace V0 : Hid (Mv w (wr.alloc (.cells #[.int .i64 0, .int .i64 0, .int .i64 0, .int .i64 0, .int .i64 0, .int .i64 0, .int .i64 0, .int .i64 0] 25)) l wr.heap.size zero8) := V0
      generalize World.alloc wr _ = w1 at V0 ⊢
      generalize wr.heap.size = g at V0 ⊢
      go_wp2
      go_loopw [8, 27] (fun best i wr => ∃ k : Nat, k ≤ l.length ∧ i = .int .i64 k ∧ best = .int .i64 ((mostTo l k).2 : Int) ∧ Hid (Mv w wr l g (mostTo l k).1)) (fun _ i _ => l.length - (intOf i).toNat)
      case atStart => exact ⟨0, by omega, rfl, rfl, V0⟩
      case round =>
        clear V0
        obtain ⟨k, hk, rfl, rfl, J⟩ := hrel
        obtain ⟨z8, zl⟩ := HL.out k
        by_cases hlt : k < l.length
        · obtain ⟨x, hx⟩ : ∃ x, l[k]? = some x := ⟨_, List.getElem?_eq_getElem hlt⟩
          have hx8 := H8.out x (List.mem_of_getElem? hx)
          obtain ⟨x0, x1, x2, x3, x4, x5, x6, x7, rfl⟩ := len8 hx8.len
          obtain ⟨b, off, rfl, he⟩ := EL.out wr k _ J.out.m.low hx
          obtain ⟨e0, e1, e2, e3, e4, e5, e6, e7⟩ := eight_lit he
          have HS := hide (mostTo_succ hx)
          unfold mostStep at HS
          have J1 := hide (J.out.alloc (.cells (cA [x0, x1, x2, x3, x4, x5, x6, x7]) 25))
          have R1 := hide (Row.new wr 25 (cA [x0, x1, x2, x3, x4, x5, x6, x7]))
          have lg : g < wr.heap.size := J.out.v.lt
          have H8x := hide hx8
          have Z8 := hide z8
          clear hx he J hx8 z8
          generalize mostTo l k = s at HS J1 Z8 zl ⊢
          have hcl := List.count_le_length (a := [x0, x1, x2, x3, x4, x5, x6, x7]) (l := l)
          have LK := hide (fun w' y (h : Mv w w' l g y) => h.m.cnt.look H8x.out)
          generalize l.count [x0, x1, x2, x3, x4, x5, x6, x7] = m at HS hcl LK
          go_upto_region 12 with (fail)
          clear e0 e1 e2 e3 e4 e5 e6 e7
          have KW := hide (And.intro J1.out R1.out)
          clear J1 R1
          replace KW : Hid (Mv w (wr.alloc (.cells #[.int .i64 x0, .int .i64 x1, .int .i64 x2, .int .i64 x3, .int .i64 x4, .int .i64 x5, .int .i64 x6, .int .i64 x7] 25)) l g s.1 ∧ Row (wr.alloc (.cells #[.int .i64 x0, .int .i64 x1, .int .i64 x2, .int .i64 x3, .int .i64 x4, .int .i64 x5, .int .i64 x6, .int .i64 x7] 25)) wr.heap.size 25 #[.int .i64 x0, .int .i64 x1, .int .i64 x2, .int .i64 x3, .int .i64 x4, .int .i64 x5, .int .i64 x6, .int .i64 x7]) := KW
          generalize World.alloc wr _ = w1 at KW ⊢
          obtain ⟨e0, e1, e2, e3, e4, e5, e6, e7⟩ := KW.out.2.eight
          replace e0 : w1.cell? ⟨wr.heap.size, 0, none⟩ = some (.int .i64 x0) := e0
          replace e1 : w1.cell? ⟨wr.heap.size, 1, none⟩ = some (.int .i64 x1) := e1
          replace e2 : w1.cell? ⟨wr.heap.size, 2, none⟩ = some (.int .i64 x2) := e2
          replace e3 : w1.cell? ⟨wr.heap.size, 3, none⟩ = some (.int .i64 x3) := e3
          replace e4 : w1.cell? ⟨wr.heap.size, 4, none⟩ = some (.int .i64 x4) := e4
          replace e5 : w1.cell? ⟨wr.heap.size, 5, none⟩ = some (.int .i64 x5) := e5
          replace e6 : w1.cell? ⟨wr.heap.size, 6, none⟩ = some (.int .i64 x6) := e6
          replace e7 : w1.cell? ⟨wr.heap.size, 7, none⟩ = some (.int .i64 x7) := e7
          have lk1 := LK.out _ _ KW.out.1
          by_cases hm : s.2 < m
          · have hm' : decide (s.2 < m) = true := by simpa using hm
            have hs : Hid (mostTo l (k + 1) = ([x0, x1, x2, x3, x4, x5, x6, x7], m)) := by have := HS.out; rw [if_pos hm] at this; exact this
            clear HS
            go_upto_region 13 with (fail)
            clear lk1
            have lk2 := LK.out _ _ KW.out.1.drew
            obtain ⟨y0, y1, y2, y3, y4, y5, y6, y7, hy⟩ := len8 Z8.out
            obtain ⟨k0, k1, k2, k3, k4, k5, k6, k7⟩ := KW.out.1.v.eight
            rw [hy] at k0 k1 k2 k3 k4 k5 k6 k7
            replace k0 : w1.cell? ⟨g, 0, none⟩ = some (.int .i64 y0) := k0
            replace k1 : w1.cell? ⟨g, 1, none⟩ = some (.int .i64 y1) := k1
            replace k2 : w1.cell? ⟨g, 2, none⟩ = some (.int .i64 y2) := k2
            replace k3 : w1.cell? ⟨g, 3, none⟩ = some (.int .i64 y3) := k3
            replace k4 : w1.cell? ⟨g, 4, none⟩ = some (.int .i64 y4) := k4
            replace k5 : w1.cell? ⟨g, 5, none⟩ = some (.int .i64 y5) := k5
            replace k6 : w1.cell? ⟨g, 6, none⟩ = some (.int .i64 y6) := k6
            replace k7 : w1.cell? ⟨g, 7, none⟩ = some (.int .i64 y7) := k7
            obtain ⟨g0, g1, g2, g3, g4, g5, g6, g7⟩ := KW.out.1.v.free8
            have KN := hide (KW.out.1.eight (y := [x0, x1, x2, x3, x4, x5, x6, x7]) (.int .i64 x0) (.int .i64 x1) (.int .i64 x2) (.int .i64 x3) (.int .i64 x4) (.int .i64 x5) (.int .i64 x6) (.int .i64 x7) Z8.out rfl).drew
            have lk3 := LK.out _ _ KN.out
            clear KW hy LK
            go_region
            all_goals
              go_wp2
              go_roundw
              case rel => exact ⟨k + 1, by omega, by go_num, by rw [hs.out], by rw [hs.out]; exact KN⟩
              case measure => simp [intOf]; omega
          · have hm' : decide (s.2 < m) = false := by simpa using hm
            have hs : Hid (mostTo l (k + 1) = s) := by have := HS.out; rw [if_neg hm] at this; exact this
            have KN := hide KW.out.1
            clear HS KW LK
            go_wp2
            go_roundw
            case rel => exact ⟨k + 1, by omega, by go_num, by rw [hs.out], by rw [hs.out]; exact KN⟩
            case measure => simp [intOf]; omega
        · obtain rfl : k = l.length := by omega
          rw [HA.out] at J z8 ⊢
          have hge : ¬ ((l.length : Int) < (l.length : Int)) := by omega
          obtain ⟨z0, z1, z2, z3, z4, z5, z6, z7, hz⟩ := len8 z8
          have J' := hide J.out.m
          have jv := J.out.v
          rw [hz] at jv
          obtain ⟨e0, e1, e2, e3, e4, e5, e6, e7⟩ := jv.eight
          replace e0 : wr.cell? ⟨g, 0, none⟩ = some (.int .i64 z0) := e0
          replace e1 : wr.cell? ⟨g, 1, none⟩ = some (.int .i64 z1) := e1
          replace e2 : wr.cell? ⟨g, 2, none⟩ = some (.int .i64 z2) := e2
          replace e3 : wr.cell? ⟨g, 3, none⟩ = some (.int .i64 z3) := e3
          replace e4 : wr.cell? ⟨g, 4, none⟩ = some (.int .i64 z4) := e4
          replace e5 : wr.cell? ⟨g, 5, none⟩ = some (.int .i64 z5) := e5
          replace e6 : wr.cell? ⟨g, 6, none⟩ = some (.int .i64 z6) := e6
          replace e7 : wr.cell? ⟨g, 7, none⟩ = some (.int .i64 z7) := e7
          obtain ⟨k0, k1, k2, k3, k4, k5, k6, k7⟩ := J'.out.res.eight
          replace k0 : wr.cell? ⟨w.heap.size, 0, none⟩ = some (.int .i64 0) := k0
          replace k1 : wr.cell? ⟨w.heap.size, 1, none⟩ = some (.int .i64 0) := k1
          replace k2 : wr.cell? ⟨w.heap.size, 2, none⟩ = some (.int .i64 0) := k2
          replace k3 : wr.cell? ⟨w.heap.size, 3, none⟩ = some (.int .i64 0) := k3
          replace k4 : wr.cell? ⟨w.heap.size, 4, none⟩ = some (.int .i64 0) := k4
          replace k5 : wr.cell? ⟨w.heap.size, 5, none⟩ = some (.int .i64 0) := k5
          replace k6 : wr.cell? ⟨w.heap.size, 6, none⟩ = some (.int .i64 0) := k6
          replace k7 : wr.cell? ⟨w.heap.size, 7, none⟩ = some (.int .i64 0) := k7
          obtain ⟨g0, g1, g2, g3, g4, g5, g6, g7⟩ := J'.out.res.free8
          have HZ := hide hz
          clear jv J hz z8 zl
          go_wp2
          refine bodyPost_ret (results_two8 Try.results11 rfl rfl (row_eight J'.out.res _ _ _ _ _ _ _ _)) rfl ⟨?_, below_eight J'.out.low (Nat.le_refl _) _ _ _ _ _ _ _ _⟩
          rw [HZ.out]; rfl
end Go.Proofs.Ytpngcocmjbkfgaa
