/- Package dedup's may and Right. Conditions: the lists of pairs lie in memory, none is great. -/
import Derived.Test.YtjadbppcjndmlaaOw
namespace Go.Proofs.Ytjadbppcjndmlaa
open Go.RowKit
/-- May it be a client's? -/
noncomputable def mayO (o : Ow) : Bool := if o.s = 0 then nullR o.r else (decide (1 ≤ o.s) && (decide (o.s ≤ 1099511627776) && okR o.r))
set_option maxHeartbeats 4000000 in
theorem mayO_any (o : Ow) (p : Value) (w : World) (h : Pin w p o.r.l) (ln : o.r.l.length ≤ 3518437208780) :
    Calls Try.prog 21 #[.agg #[.int .i64 o.s, .int .i64 o.r.why, .bool o.r.fnd, .string o.r.val, .int .i64 o.r.ver, p]] w fun e w' => e = .returned (.bool (mayO o)) ∧ Below w.heap.size w w' := by
  have HW := hide (kept_alloc (kept_refl w) (.cells #[.int .i64 o.s, .int .i64 o.r.why, .bool o.r.fnd, .string o.r.val, .int .i64 o.r.ver, p] 27))
  have HZ := hide (zero_any o.r p _ (h.below HW.out) ln)
  have HR := hide (isright_any o.r p _ (h.below HW.out) ln)
  unfold mayO
  obtain ⟨s, r⟩ := o
  dsimp only at *
  clear h
  by_cases h0 : s = 0
  · rw [if_pos h0]
    subst h0
    generalize nullR r = t at HZ ⊢
    go_enter Try.func21, Try.ntmps21
    go_wp2_with (go_at_call 23; (with_reducible refine HZ.out.mono ?_); rintro e w1 ⟨rfl, hb1⟩)
    go_ret
    exact ⟨rfl, kept_trans HW.out hb1⟩
  · rw [if_neg h0]
    have e0 : (s == 0) = false := by simpa using h0
    clear h0
    generalize okR r = t at HR ⊢
    obtain ⟨t1, h1⟩ : ∃ t, decide (1 ≤ s) = t := ⟨_, rfl⟩
    obtain ⟨t2, h2⟩ : ∃ t, decide (s ≤ 1099511627776) = t := ⟨_, rfl⟩
    rw [h1, h2]
    cases t1
    · go_enter Try.func21, Try.ntmps21
      go_wp2
      go_ret
      exact ⟨rfl, HW.out⟩
    cases t2
    · go_enter Try.func21, Try.ntmps21
      go_wp2
      go_ret
      exact ⟨rfl, HW.out⟩
    go_enter Try.func21, Try.ntmps21
    go_wp2_with (go_at_call 24; (with_reducible refine HR.out.mono ?_); rintro e w1 ⟨rfl, hb1⟩)
    go_ret
    exact ⟨ret_bool (by simp), kept_trans HW.out hb1⟩
noncomputable def rightO (l : List Co) : Bool := l.all fun x => mayO x.o
set_option maxRecDepth 100000 in
set_option maxHeartbeats 4000000 in
theorem rightO_any (L : List Co) (w : World) (h : Fine w L) :
    Calls Try.prog 14 #[.agg (arr L)] w fun e w' => e = .returned (.bool (rightO L)) ∧ Below w.heap.size w w' := by
  have HF := hide (h.below (kept_alloc (kept_refl w) (.cells (arr L) 28)))
  have HW := hide (kept_alloc (kept_refl w) (.cells (arr L) 28))
  have HR := hide (Row.new w 28 (arr L))
  have H8 := hide h.1
  have l8 : 8 ≤ L.length := by rw [h.1]; exact Nat.le_refl _
  clear h
  go_enter Try.func14, Try.ntmps14
  go_wp2_with ((with_reducible refine wpList_load8 ?_ HR.out H8.out ?_); rfl)
  generalize w.alloc (.cells (arr L) 28) = w1 at HF HW HR ⊢
  go_loopw [6] (fun i wr => ∃ k : Nat, k ≤ 8 ∧ i = .int .i64 k ∧ Hid (∀ j x, j < k → L[j]? = some x → mayO x.o = true) ∧ Hid (Below w1.heap.size w1 wr)) (fun i _ => 8 - (intOf i).toNat)
  case atStart => exact ⟨0, by omega, rfl, (fun j x hj => absurd hj (by omega)), Below.refl _ _⟩
  case round =>
    obtain ⟨k, hk, rfl, hs, hb⟩ := hrel
    by_cases hlt : k < 8
    · obtain ⟨x, hx, hp, hn⟩ := HF.out.at_ hlt
      have hix := index_eight H8.out hlt hx
      have hlt' : (k : Int) < 8 := by omega
      have HX := hide hx
      have hp2 := hp.below hb.out
      have HB2 := hide (kept_alloc hb.out (.cells #[.int .i64 x.o.s, .int .i64 x.o.r.why, .bool x.o.r.fnd, .string x.o.r.val, .int .i64 x.o.r.ver, x.p] 27))
      have HM := hide (mayO_any x.o x.p _ (hp.below HB2.out) hn)
      clear hp hx hn hp2
      unfold Co.p at hix HM HB2
      cases hm : mayO x.o
      · rw [hm] at HM
        have HE : Hid (rightO L = false) := hide (by
          unfold rightO
          rw [List.all_eq_false]
          exact ⟨x, List.mem_of_getElem? HX.out, by rw [hm]; simp⟩)
        clear hm
        go_wp2_with (go_at_call 21; (with_reducible refine HM.out.mono ?_); rintro e w2 ⟨rfl, hb2⟩)
        go_ret
        exact ⟨by rw [HE.out]; rfl, kept_trans HW.out (kept_trans HB2.out hb2)⟩
      · rw [hm] at HM
        have HE := hide hm
        clear hm
        go_wp2_with (go_at_call 21; (with_reducible refine HM.out.mono ?_); rintro e w2 ⟨rfl, hb2⟩)
        go_roundw
        case rel => exact ⟨k + 1, by omega, by go_num, hide (fun j y hj hy => by
          rcases Nat.lt_or_ge j k with h1 | h1
          · exact hs.out j y h1 hy
          · obtain rfl : j = k := by omega
            cases HX.out.symm.trans hy
            exact HE.out), hide (kept_trans HB2.out hb2)⟩
        case measure => simp [intOf]; omega
    · obtain rfl : k = 8 := by omega
      have HE : Hid (rightO L = true) := hide (by
        unfold rightO
        rw [List.all_eq_true]
        intro x hx
        obtain ⟨j, hj⟩ := List.getElem?_of_mem hx
        have hl : j < L.length := by
          rcases Nat.lt_or_ge j L.length with h1 | h1
          · exact h1
          · rw [List.getElem?_eq_none h1] at hj; cases hj
        exact hs.out j x (by rw [H8.out] at hl; exact hl) hj)
      go_wp2
      go_ret
      exact ⟨by rw [HE.out]; rfl, kept_trans HW.out hb.out⟩
end Go.Proofs.Ytjadbppcjndmlaa
