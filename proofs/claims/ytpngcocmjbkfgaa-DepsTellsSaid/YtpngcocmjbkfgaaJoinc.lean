/- Join of package deps: its contract. Conditions: the slice has room. -/
import Derived.Test.YtpngcocmjbkfgaaJoin
namespace Go.Proofs.Ytpngcocmjbkfgaa
open Go.RowKit
theorem take_snoc {α : Type} {l : List α} {k : Nat} {x : α} (h : l[k]? = some x) : l.take (k + 1) = l.take k ++ [x] := by
  have hk : k < l.length := by
    rcases Nat.lt_or_ge k l.length with h1 | h1
    · exact h1
    · rw [List.getElem?_eq_none h1] at h; cases h
  rw [List.getElem?_eq_getElem hk] at h
  rw [List.take_succ_eq_append_getElem hk, Option.some.inj h]
theorem fold_snoc (a : List Int) {l : List (List Int)} {k : Nat} {x : List Int} (h : l[k]? = some x) : (l.take (k + 1)).foldl maxA a = maxA ((l.take k).foldl maxA a) x := by
  rw [take_snoc h, List.foldl_append]; rfl
theorem fold_len {a : List Int} (h : a.length = 8) : ∀ l : List (List Int), (l.foldl maxA a).length = 8
  | [] => h
  | x :: r => fold_len (a := maxA a x) rfl r
set_option maxRecDepth 100000 in
set_option maxHeartbeats 4000000 in
theorem join_any (A : Option Addr) (n c : Nat) (l : List (List Int)) (w : World) (hn : l.length = n) (h8 : All 8 l) (hl : Its 8 w A l) (hc : n ≤ c) (lc : c ≤ 9223372036854775807) :
    Calls Try.prog 13 #[.slice A n c] w fun e w' => e = .returned (.agg (cA (joinL l))) ∧ Below w.heap.size w w' := by
  subst hn
  rcases l with _ | ⟨a, r⟩
  · go_enter Try.func13, Try.ntmps13
    go_wp2
    refine bodyPost_ret (v := .agg (cA zero8)) (by simp [results, Try.results13, go_sem, cA, cellsR, zero8]) rfl ⟨rfl, (Below.refl _ _).alloc (Nat.le_refl _) _⟩
  · obtain ⟨a0, a1, a2, a3, a4, a5, a6, a7, rfl⟩ := len8 (h8 a (by simp))
    have hr8 : All 8 r := fun x hx => h8 x (by simp [hx])
    obtain ⟨b, off, rfl, hb, hc0⟩ := hl.at_ (k := 0) (x := [a0, a1, a2, a3, a4, a5, a6, a7]) rfl
    obtain ⟨c0, c1, c2, c3, c4, c5, c6, c7⟩ := eight_lit (eight_at (o := off) (by simpa using hc0))
    clear hc0
    have HI := hide hl
    have HR8 := hide hr8
    clear hl hr8 h8
    have ST := hide (show Jn w ((w.alloc (.cells (cA zero8) 25)).alloc (.cells (cA [a0, a1, a2, a3, a4, a5, a6, a7]) 25)) [a0, a1, a2, a3, a4, a5, a6, a7] from
      ⟨kept_alloc (kept_alloc (kept_refl w) _) _, (Row.new w _ _).alloc _, by have h := Row.new (w.alloc (.cells (cA zero8) 25)) 25 (cA [a0, a1, a2, a3, a4, a5, a6, a7]); simpa using h⟩)
    rcases r with _ | ⟨a', r⟩
    · have l1 : (1 : Int) ≤ c := by simp at hc; omega
      go_enter Try.func13, Try.ntmps13
      go_wp2
      all_goals
        refine wp_loop_rounds 1 ?_
        rw [rounds_succ]
        go_wp2
        refine bodyPost_ret (v := .agg (cA [a0, a1, a2, a3, a4, a5, a6, a7])) (by simp [results, Try.results13, go_sem, cA, cellsR]) rfl ⟨rfl, (kept_alloc (kept_alloc (kept_refl w) _) _)⟩
    · generalize hR : a' :: r = R at *
      have lR : 1 ≤ R.length := by rw [← hR]; simp
      clear hR
      generalize hN : ([a0, a1, a2, a3, a4, a5, a6, a7] :: R).length = N at *
      have HL := hide (show R.length + 1 = N from hN)
      have HZ := hide (show joinL ([a0, a1, a2, a3, a4, a5, a6, a7] :: R) = R.foldl maxA [a0, a1, a2, a3, a4, a5, a6, a7] from rfl)
      generalize joinL ([a0, a1, a2, a3, a4, a5, a6, a7] :: R) = Z at HZ ⊢
      have hb1 : ((N : Int) == 0) = false := by simp at hN ⊢; omega
      have hc1 : ¬ c = 1 := by simp at hN; omega
      have h1N : (1 : Int) ≤ N := by simp at hN; omega
      clear hN lR
      have EL : Hid (∀ (w' : World) k x, Below w.heap.size w w' → R[k]? = some x → Cells8 w' b (off + 8 + k * 8) x) := fun w' k x hbw hk => by
        obtain ⟨b', off', e, _, hce⟩ := (HI.out.below hbw).at_ (k := k + 1) (x := x) (by simpa using hk)
        injection e with e
        injection e with e1 e2
        subst e1 e2
        exact eight_at (by rw [show off + 8 + k * 8 = off + (k + 1) * 8 by omega]; exact hce)
      go_enter Try.func13, Try.ntmps13
      go_wp2
      go_loopw [18] (fun i wr => ∃ k : Nat, k ≤ R.length ∧ i = .int .i64 k ∧ Hid (Jn w wr ((R.take k).foldl maxA [a0, a1, a2, a3, a4, a5, a6, a7]))) (fun i _ => R.length - (intOf i).toNat)
      case atStart => exact ⟨0, by omega, rfl, ST.out⟩
      case round =>
        obtain ⟨wo, rfl⟩ : ∃ wo : World, wo = wr := ⟨_, rfl⟩
        obtain ⟨k, hk, rfl, J⟩ := hrel
        by_cases hlt : k < R.length
        · obtain ⟨x, hx⟩ : ∃ x, R[k]? = some x := ⟨_, List.getElem?_eq_getElem hlt⟩
          obtain ⟨x0, x1, x2, x3, x4, x5, x6, x7, rfl⟩ := len8 (HR8.out x (List.mem_of_getElem? hx))
          obtain ⟨e0, e1, e2, e3, e4, e5, e6, e7⟩ := eight_lit (EL.out wo k _ J.out.low hx)
          have HF := hide (fold_snoc [a0, a1, a2, a3, a4, a5, a6, a7] hx)
          have hl8 := fold_len (a := [a0, a1, a2, a3, a4, a5, a6, a7]) rfl (R.take k)
          generalize (R.take k).foldl maxA [a0, a1, a2, a3, a4, a5, a6, a7] = y at J HF hl8
          have hN : R.length + 1 = N := HL.out
          have hkN : (k : Int) < ((N - 1 : Nat) : Int) := by omega
          have J1 := hide (J.out.alloc (.cells (cA [x0, x1, x2, x3, x4, x5, x6, x7]) 25))
          have R1 := hide (Row.new wo 25 (cA [x0, x1, x2, x3, x4, x5, x6, x7]))
          have lo : w.heap.size + 1 < wo.heap.size := J.out.j.lt
          go_upto_region 7 with (fail)
          clear e0 e1 e2 e3 e4 e5 e6 e7
          have KW := hide (And.intro J1.out R1.out)
          clear J1 R1
          replace KW : Hid (Jn w (wo.alloc (.cells #[.int .i64 x0, .int .i64 x1, .int .i64 x2, .int .i64 x3, .int .i64 x4, .int .i64 x5, .int .i64 x6, .int .i64 x7] 25)) y ∧ Row (wo.alloc (.cells #[.int .i64 x0, .int .i64 x1, .int .i64 x2, .int .i64 x3, .int .i64 x4, .int .i64 x5, .int .i64 x6, .int .i64 x7] 25)) wo.heap.size 25 #[.int .i64 x0, .int .i64 x1, .int .i64 x2, .int .i64 x3, .int .i64 x4, .int .i64 x5, .int .i64 x6, .int .i64 x7]) := KW
          generalize World.alloc wo _ = w1 at KW ⊢
          have f0 := row_cA KW.out.1.j 0 (by omega)
          have g0 := KW.out.1.j.free 0
          obtain ⟨e0, -⟩ := KW.out.2.eight
          replace e0 : w1.cell? ⟨wo.heap.size, 0, none⟩ = some (.int .i64 x0) := e0
          have KW2 := hide (And.intro (KW.out.1.put 0 (.int .i64 (max (ix y 0) x0)) (set_mix0 [x0, x1, x2, x3, x4, x5, x6, x7] hl8)) ((Below.heap_setCell w1 ⟨w.heap.size + 1, 0, none⟩ (.int .i64 (max (ix y 0) x0)) wo.heap.size (by show wo.heap.size ≠ w.heap.size + 1; omega)).trans KW.out.2))
          clear KW
          go_upto_region 8 with (fail)
          clear f0 g0 e0
          replace KW2 : Hid (Jn w (w1.setCell ⟨w.heap.size + 1, 0, none⟩ (.int .i64 (max (ix y 0) x0))) (mixA y [x0, x1, x2, x3, x4, x5, x6, x7] 0) ∧ Row (w1.setCell ⟨w.heap.size + 1, 0, none⟩ (.int .i64 (max (ix y 0) x0))) wo.heap.size 25 #[.int .i64 x0, .int .i64 x1, .int .i64 x2, .int .i64 x3, .int .i64 x4, .int .i64 x5, .int .i64 x6, .int .i64 x7]) := KW2
          generalize World.setCell w1 _ _ = w2 at KW2 ⊢
          have KJ := hide KW2.out.1
          obtain ⟨e0, e1, e2, e3, e4, e5, e6, e7⟩ := KW2.out.2.eight
          replace e1 : w2.cell? ⟨wo.heap.size, 1, none⟩ = some (.int .i64 x1) := e1
          replace e2 : w2.cell? ⟨wo.heap.size, 2, none⟩ = some (.int .i64 x2) := e2
          replace e3 : w2.cell? ⟨wo.heap.size, 3, none⟩ = some (.int .i64 x3) := e3
          replace e4 : w2.cell? ⟨wo.heap.size, 4, none⟩ = some (.int .i64 x4) := e4
          replace e5 : w2.cell? ⟨wo.heap.size, 5, none⟩ = some (.int .i64 x5) := e5
          replace e6 : w2.cell? ⟨wo.heap.size, 6, none⟩ = some (.int .i64 x6) := e6
          replace e7 : w2.cell? ⟨wo.heap.size, 7, none⟩ = some (.int .i64 x7) := e7
          clear KW2 e0
          go_wp2
          clear e1 e2 e3 e4 e5 e6 e7
          go_loopw [30] (fun i wr => ∃ m : Nat, m ≤ 7 ∧ i = .int .i64 m ∧ Hid (Jn w wr (mixA y [x0, x1, x2, x3, x4, x5, x6, x7] m))) (fun i _ => 7 - (intOf i).toNat)
          case atStart => exact ⟨0, by omega, rfl, KJ⟩
          case round =>
            clear KJ
            obtain ⟨m, hm, rfl, J2⟩ := hrel
            by_cases hm7 : m < 7
            · have f0 := row_cA J2.out.j (1 + m) (by rw [len_mixA]; omega)
              have g0 := J2.out.j.free (1 + m)
              have hi := index_deps x1 x2 x3 x4 x5 x6 x7 m hm7
              have he : ix [x1, x2, x3, x4, x5, x6, x7] m = ix [x0, x1, x2, x3, x4, x5, x6, x7] (1 + m) := by rw [Nat.add_comm]; rfl
              rw [he] at hi
              clear he
              have J3 := hide (J2.out.put (1 + m) _ (set_mix y [x0, x1, x2, x3, x4, x5, x6, x7] hm7))
              generalize ix [x0, x1, x2, x3, x4, x5, x6, x7] (1 + m) = q at hi J3
              generalize ix (mixA y [x0, x1, x2, x3, x4, x5, x6, x7] m) (1 + m) = p at f0 J3
              clear J2
              go_wp2
              go_roundw
              case rel => exact ⟨m + 1, by omega, by go_num, J3⟩
              case measure => simp [intOf]; omega
            · obtain rfl : m = 7 := by omega
              go_wp2
              go_roundw
              case rel => exact ⟨k + 1, by omega, by go_num, by rw [HF.out]; exact J2⟩
              case measure => simp [intOf]; omega
        · have hN : R.length + 1 = N := HL.out
          obtain rfl : k = R.length := by omega
          rw [List.take_of_length_le (Nat.le_refl _)] at J
          have hz := fold_len (a := [a0, a1, a2, a3, a4, a5, a6, a7]) rfl R
          generalize R.foldl maxA [a0, a1, a2, a3, a4, a5, a6, a7] = z at J hz HZ
          obtain ⟨z0, z1, z2, z3, z4, z5, z6, z7, rfl⟩ := len8 hz
          have hge : ¬ ((R.length : Int) < ((N - 1 : Nat) : Int)) := by omega
          have J' : Hid (Jn w wo [z0, z1, z2, z3, z4, z5, z6, z7]) := J
          obtain ⟨e0, e1, e2, e3, e4, e5, e6, e7⟩ := J.out.j.eight
          replace e0 : wo.cell? ⟨w.heap.size + 1, 0, none⟩ = some (.int .i64 z0) := e0
          replace e1 : wo.cell? ⟨w.heap.size + 1, 1, none⟩ = some (.int .i64 z1) := e1
          replace e2 : wo.cell? ⟨w.heap.size + 1, 2, none⟩ = some (.int .i64 z2) := e2
          replace e3 : wo.cell? ⟨w.heap.size + 1, 3, none⟩ = some (.int .i64 z3) := e3
          replace e4 : wo.cell? ⟨w.heap.size + 1, 4, none⟩ = some (.int .i64 z4) := e4
          replace e5 : wo.cell? ⟨w.heap.size + 1, 5, none⟩ = some (.int .i64 z5) := e5
          replace e6 : wo.cell? ⟨w.heap.size + 1, 6, none⟩ = some (.int .i64 z6) := e6
          replace e7 : wo.cell? ⟨w.heap.size + 1, 7, none⟩ = some (.int .i64 z7) := e7
          obtain ⟨k0, k1, k2, k3, k4, k5, k6, k7⟩ := J.out.res.eight
          replace k0 : wo.cell? ⟨w.heap.size, 0, none⟩ = some (.int .i64 0) := k0
          replace k1 : wo.cell? ⟨w.heap.size, 1, none⟩ = some (.int .i64 0) := k1
          replace k2 : wo.cell? ⟨w.heap.size, 2, none⟩ = some (.int .i64 0) := k2
          replace k3 : wo.cell? ⟨w.heap.size, 3, none⟩ = some (.int .i64 0) := k3
          replace k4 : wo.cell? ⟨w.heap.size, 4, none⟩ = some (.int .i64 0) := k4
          replace k5 : wo.cell? ⟨w.heap.size, 5, none⟩ = some (.int .i64 0) := k5
          replace k6 : wo.cell? ⟨w.heap.size, 6, none⟩ = some (.int .i64 0) := k6
          replace k7 : wo.cell? ⟨w.heap.size, 7, none⟩ = some (.int .i64 0) := k7
          obtain ⟨g0, g1, g2, g3, g4, g5, g6, g7⟩ := J.out.res.free8
          clear J hz
          go_wp2
          exact bodyPost_ret (results_at8 Try.results13 rfl (row_eight J'.out.res _ _ _ _ _ _ _ _)) rfl ⟨by rw [HZ.out]; rfl, below_eight J'.out.low (Nat.le_refl _) _ _ _ _ _ _ _ _⟩
end Go.Proofs.Ytpngcocmjbkfgaa
