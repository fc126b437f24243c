/- The document's List: its contract. Conditions: the bounds of ints. -/
import Derived.Test.YtpngcocmjbkfgaaListc
import Derived.Test.YtpngcocmjbkfgaaJoin
import Derived.OwnWalk
namespace Go.Proofs.Ytpngcocmjbkfgaa
open Go.RowKit
set_option maxRecDepth 100000 in
set_option maxHeartbeats 8000000 in
theorem reflist_any (d1 d2 d3 d4 d5 d6 d7 f1 f2 f3 f4 f5 f6 f7 : Int) (w : World) (hd : ∀ n, n ∈ [d1, d2, d3, d4, d5, d6, d7] → n ≤ 9223372036854775807) :
    Calls Try.prog 22 #[.agg #[.int .i64 d1, .int .i64 d2, .int .i64 d3, .int .i64 d4, .int .i64 d5, .int .i64 d6, .int .i64 d7], .agg #[.int .i64 f1, .int .i64 f2, .int .i64 f3, .int .i64 f4, .int .i64 f5, .int .i64 f6, .int .i64 f7]] w fun e w' => Told w w' e (listD [d1, d2, d3, d4, d5, d6, d7] [f1, f2, f3, f4, f5, f6, f7]) := by
  obtain ⟨i0, hi, hz0, hz1, hz2⟩ := info_parts Try.info34
  have ST := hide (show Lw w ((w.alloc (.cells (cA [d1, d2, d3, d4, d5, d6, d7]) 23)).alloc (.cells (cA [f1, f2, f3, f4, f5, f6, f7]) 23)) [d1, d2, d3, d4, d5, d6, d7] [f1, f2, f3, f4, f5, f6, f7] (.slice none 0 0) [] from
    ⟨kept_alloc (kept_alloc (kept_refl w) _) _, (Row.new w _ _).alloc _, by have h := Row.new (w.alloc (.cells (cA [d1, d2, d3, d4, d5, d6, d7]) 23)) 23 (cA [f1, f2, f3, f4, f5, f6, f7]); simpa using h, World.ownsRow_nil _ _ _ _⟩)
  have HB := hide (fun (k : Nat) (h : k < 7) => hd (ix [d1, d2, d3, d4, d5, d6, d7] k) (by rw [ix_lt _ (by simpa using h)]; exact List.getElem_mem _))
  clear hd
  go_enter Try.func22, Try.ntmps22
  go_wp2
  go_loopw [5, 6] (fun v i wr => ∃ k : Nat, k ≤ 7 ∧ i = .int .i64 k ∧ Hid (Lw w wr [d1, d2, d3, d4, d5, d6, d7] [f1, f2, f3, f4, f5, f6, f7] v (listTo [d1, d2, d3, d4, d5, d6, d7] [f1, f2, f3, f4, f5, f6, f7] k))) (fun _ i _ => 7 - (intOf i).toNat)
  case atStart => exact ⟨0, by omega, rfl, ST⟩
  case round =>
    clear ST
    obtain ⟨wo, rfl⟩ : ∃ wo : World, wo = wr := ⟨_, rfl⟩
    obtain ⟨k, hk, rfl, J⟩ := hrel
    by_cases hlt : k < 7
    · have hhi := HB.out k hlt
      have hk7 : (k : Int) < 7 := by omega
      have f0 := row_cA J.out.f k hlt
      have HL := hide (show listTo [d1, d2, d3, d4, d5, d6, d7] [f1, f2, f3, f4, f5, f6, f7] (k + 1) = listTo [d1, d2, d3, d4, d5, d6, d7] [f1, f2, f3, f4, f5, f6, f7] k ++ rowT k (max (ix [f1, f2, f3, f4, f5, f6, f7] k) 0) (rowN (max (ix [f1, f2, f3, f4, f5, f6, f7] k) 0) (ix [d1, d2, d3, d4, d5, d6, d7] k) (listTo [d1, d2, d3, d4, d5, d6, d7] [f1, f2, f3, f4, f5, f6, f7] k).length) from rfl)
      have HA := hide (listTo_all [d1, d2, d3, d4, d5, d6, d7] [f1, f2, f3, f4, f5, f6, f7] k)
      have hL := listTo_len [d1, d2, d3, d4, d5, d6, d7] [f1, f2, f3, f4, f5, f6, f7] k
      generalize listTo [d1, d2, d3, d4, d5, d6, d7] [f1, f2, f3, f4, f5, f6, f7] k = L at J HL HA hL
      have DR := hide (fun (w' : World) (v : Value) (l : List (List Int)) (h : Lw w w' [d1, d2, d3, d4, d5, d6, d7] [f1, f2, f3, f4, f5, f6, f7] v l) => row_cA h.d k hlt)
      generalize ix [d1, d2, d3, d4, d5, d6, d7] k = hi' at hhi HL DR
      generalize ix [f1, f2, f3, f4, f5, f6, f7] k = lo' at f0 HL
      have l0 : 0 ≤ max lo' 0 := by omega
      obtain ⟨lo, hlo⟩ : ∃ lo, max lo' 0 = lo := ⟨_, rfl⟩
      rw [hlo] at l0 HL
      have HM := hide hlo
      clear hlo
      obtain ⟨N, hN⟩ : ∃ N, rowN lo hi' L.length = N := ⟨_, rfl⟩
      have HN := hide hN
      rw [hN] at HL
      clear hN
      go_wp2
      go_loopw [5, 7] (fun v s wr => ∃ t : Nat, t ≤ N ∧ s = .int .i64 (lo + t) ∧ Hid (Lw w wr [d1, d2, d3, d4, d5, d6, d7] [f1, f2, f3, f4, f5, f6, f7] v (L ++ rowT k lo t))) (fun _ s _ => (hi' - intOf s).toNat)
      case atStart => exact ⟨0, by omega, by rw [HM.out]; simp, by rw [rowT_zero, List.append_nil]; exact J⟩
      case round =>
        clear J
        obtain ⟨t, ht, rfl, J⟩ := hrel
        obtain ⟨A, cc, rfl⟩ := own_shapeS J.out.own
        have HS := hide (rowT_succ k lo t)
        have hLt : (L ++ rowT k lo t).length = L.length + t := by rw [List.length_append, rowT_len]
        have HT := hide hLt
        have J' : Hid (Lw w wr [d1, d2, d3, d4, d5, d6, d7] [f1, f2, f3, f4, f5, f6, f7] (.slice A (L.length + t) cc) (L ++ rowT k lo t)) := by have := J.out; rw [hLt] at this; exact this
        rw [hLt]
        clear J hLt
        have dr := DR.out _ _ _ J'.out
        by_cases hmore : t < N
        · obtain ⟨h1, h2⟩ := rowN_more (by rw [HN.out]; exact hmore)
          have h2' : ((L.length + t : Nat) : Int) < 1000 := by omega

          have own0 := J'.out.own
          rw [HT.out] at own0
          have hbase := J'.out.base
          go_wp2_with (at_builtin; refine wpList_append_own _ rfl _ _ 29 rfl (w.heap.size + 1 + 1) 34 i0 (.agg #[.int .i64 0, .int .i64 0]) 2 16 Try.underlying29 hi hz0 hz1 hz2 rfl (by decide) _ _ _ rfl (own0.alloc _) ⟨wr.heap.size, 0, none⟩ 1 1 [.int .i64 k, .int .i64 (lo + t + 1)] rfl rfl (cell_two_new _ _ _ _) (by simp [Value.oneCell']) (by unfold maxLen; omega) (by omega) (by simp; omega) ?_; intro v' w1 hown' hgrow _)
          have hown2 : w1.ownsRow (w.heap.size + 1 + 1) 34 2 v' (L ++ rowT k lo (t + 1)).length (cellsL (L ++ rowT k lo (t + 1))) := by
            rw [HS.out, ← List.append_assoc, cellsL_snoc, List.length_append, HT.out]
            have e : lo + 1 + (t : Int) = lo + t + 1 := by omega
            rw [e]
            exact hown'
          have KN := hide (J'.out.turn hgrow hown2)
          clear hown' hown2 hgrow own0
          go_wp2
          go_roundw
          case rel => exact ⟨t + 1, by omega, by congr 1; omega, KN⟩
          case measure => simp [intOf]; omega
        · obtain rfl : t = N := by omega
          have h1000 := hide (fun h => rowN_less (lo := lo) (hi := hi') (n := L.length) HN.out.symm h)
          by_cases hs : lo + t < hi'
          · have h2 : ¬ ((L.length + t : Nat) : Int) < 1000 := by have := h1000.out hs; omega
            go_wp2
            go_roundw
            case rel => exact ⟨k + 1, by omega, by go_num, by rw [HL.out]; exact J'⟩
            case measure => simp [intOf]; omega
          · have hs0 : True := trivial
            go_wp2
            go_roundw
            case rel => exact ⟨k + 1, by omega, by go_num, by rw [HL.out]; exact J'⟩
            case measure => simp [intOf]; omega
    · obtain rfl : k = 7 := by omega
      have HA := listTo_all [d1, d2, d3, d4, d5, d6, d7] [f1, f2, f3, f4, f5, f6, f7] 7
      go_wp2
      go_ret
      exact J.out.told HA
end Go.Proofs.Ytpngcocmjbkfgaa
