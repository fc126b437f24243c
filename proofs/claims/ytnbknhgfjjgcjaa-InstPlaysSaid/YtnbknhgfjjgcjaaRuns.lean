/- Chapter 6's runs. No condition. -/
import Derived.Test.YtnbknhgfjjgcjaaEq
import Derived.Test.YtnbknhgfjjgcjaaLists
namespace Go.Proofs.Ytnbknhgfjjgcjaa
open Go.RowKit Go.Maps
/-- A block that is just these instances. -/
theorem ins_row {w : World} {g : Nat} {t : TypeId} {cs : Array Value} {l : List (Int × Int)} (h : Row w g t cs) (hc : cs.toList = cellsP l) : Ins w (some ⟨g, 0, none⟩) l := fun _ => by
  refine ⟨g, 0, rfl, h.lt, fun k x hk => ?_⟩
  have hl : k < l.length := by
    rcases Nat.lt_or_ge k l.length with h1 | h1
    · exact h1
    · rw [List.getElem?_eq_none h1] at hk; cases hk
  have e : ∀ i, i < 2 → cs[k * 2 + i]? = some (ic x)[i]! := fun i hi => by
    rw [← Array.getElem?_toList, hc, cellsP_at l _ (by omega)]
    have e1 : (k * 2 + i) / 2 = k := by omega
    have e2 : (k * 2 + i) % 2 = i := by omega
    rw [e1, e2]
    have e3 : l.toArray[k]! = x := by
      rw [List.getElem?_eq_getElem hl] at hk
      rw [getElem!_pos _ _ (by simpa using hl)]
      simpa using hk
    rw [e3]
  refine ⟨?_, ?_⟩
  · rw [h.cell, show 0 + k * 2 = k * 2 + 0 by omega, e 0 (by omega)]; rfl
  · rw [h.cell, show 0 + k * 2 + 1 = k * 2 + 1 by omega, e 1 (by omega)]; rfl
/-- A slice that owns these instances. -/
theorem Made.ins {w w' : World} {A : Option Addr} {n c : Nat} {l : List (Int × Int)} (h : Made w w' (.slice A n c) l) : Ins w' A l ∧ l.length = n := by
  obtain ⟨⟨h1, h2⟩, hn, hb⟩ := h
  rcases h2 with ⟨e, h0⟩ | ⟨g, cap, cur, e, hg, hh, q1, q2, q3, q4⟩
  · have := hn.1 e
    subst this
    injection e with e1 e2 e3
    exact ⟨Ins.nil_, by rw [e2]; rfl⟩
  · injection e with e1 e2 e3
    subst e1 e2 e3
    refine ⟨fun _ => ⟨g, 0, rfl, (Array.getElem?_eq_some_iff.1 hh).1, fun k x hk => ?_⟩, rfl⟩
    have hl : k < l.length := by
      rcases Nat.lt_or_ge k l.length with h1 | h1
      · exact h1
      · rw [List.getElem?_eq_none h1] at hk; cases hk
    have e : ∀ i, i < 2 → cur[k * 2 + i]? = some (ic x)[i]! := fun i hi => by
      have e0 : (cur.toList.take (l.length * 2))[k * 2 + i]? = (cellsP l)[k * 2 + i]? := by rw [q4]
      rw [List.getElem?_take_of_lt (by omega), Array.getElem?_toList, cellsP_at l _ (by omega)] at e0
      rw [e0]
      have e1 : (k * 2 + i) / 2 = k := by omega
      have e2 : (k * 2 + i) % 2 = i := by omega
      rw [e1, e2]
      have e3 : l.toArray[k]! = x := by
        rw [List.getElem?_eq_getElem hl] at hk
        rw [getElem!_pos _ _ (by simpa using hl)]
        simpa using hk
      rw [e3]
    refine ⟨?_, ?_⟩
    · rw [cell_of_row w' g _ cur _ (0, 0) hh, show 0 + k * 2 = k * 2 + 0 by omega, e 0 (by omega)]; rfl
    · rw [cell_of_row w' g _ cur _ (0, 0) hh, show 0 + k * 2 + 1 = k * 2 + 1 by omega, e 1 (by omega)]; rfl
theorem own_shape2 {w : World} {base : Nat} {e : TypeId} {v : Value} {n : Nat} {xs : List Value} (h : w.ownsRow base e 2 v n xs) : ∃ A c, v = .slice A n c ∧ (A = none → c = 0) := by
  rcases h.2 with ⟨rfl, rfl⟩ | ⟨g, cap, cur, rfl, _⟩
  · exact ⟨none, 0, rfl, fun _ => rfl⟩
  · exact ⟨_, cap, rfl, fun h => by cases h⟩
theorem Made.slice {w w' : World} {v : Value} {l : List (Int × Int)} (h : Made w w' v l) : ∃ A c, v = .slice A l.length c ∧ Ins w' A l := by
  obtain ⟨A, c, rfl, _⟩ := own_shape2 h.1
  exact ⟨A, c, rfl, h.ins.1⟩
/-- The set as it stands in w, and that nothing of w0 has turned. -/
structure Kp (w0 w : World) (g b : Nat) (l : List (Int × Int)) : Prop where
  set : Set w g b l
  low : Below w0.heap.size w0 w
  g : w0.heap.size ≤ g
  b : w0.heap.size ≤ b
section
variable {w0 w w' : World} {g b : Nat} {l : List (Int × Int)}
theorem Kp.below (h : Kp w0 w g b l) (hb : Below w.heap.size w w') : Kp w0 w' g b l := ⟨h.set.below hb, h.low.trans (hb.mono h.low.size), h.g, h.b⟩
theorem Kp.alloc (h : Kp w0 w g b l) (o : Obj) : Kp w0 (w.alloc o) g b l := h.below ((Below.refl _ _).alloc (Nat.le_refl _) o)
theorem Kp.drewN (h : Kp w0 w g b l) (n : Nat) : Kp w0 (w.drewN n) g b l := h.below ⟨rfl, rfl, rfl, Nat.le_refl _, fun _ _ => rfl⟩
theorem Kp.turned {m : List (Int × Int)} (h : Kp w0 w g b l) (hs : Set w' g b m) (hg : w.grownBy w' (some b)) : Kp w0 w' g b m := ⟨hs, h.low.grown hg h.low.size fun k hk => by cases hk; exact h.b, h.g, h.b⟩
end
theorem ok_small {r s : Int} (h1 : 0 ≤ r ∧ r ≤ 100) (h2 : 0 ≤ s ∧ s ≤ 100) : Ok (r, s) := by unfold Ok I64; simp; omega
theorem mk3 : mk [(1, 2), (0, 3), (1, 2)] = [(0, 3), (1, 2)] := by decide
set_option maxRecDepth 100000 in
set_option maxHeartbeats 2000000 in
theorem runs_any (w : World) : Calls Try.prog 3 #[] w fun e w' => e = .returned (.bool true) ∧ Below w.heap.size w w' := by
  have H := hide (kept_refl w)
  have o1 : Ok ((1 : Int), (2 : Int)) := ok_small (by omega) (by omega)
  have o2 : Ok ((0 : Int), (3 : Int)) := ok_small (by omega) (by omega)
  have ok3 : ∀ x, x ∈ [((1 : Int), (2 : Int)), (0, 3), (1, 2)] → Ok x := fun x hx => by
    simp at hx
    rcases hx with rfl | rfl | rfl
    · exact o1
    · exact o2
    · exact o1
  have O1 := hide o1; have O2 := hide o2; have O3 := hide ok3
  clear o1 o2 ok3
  go_enter Try.func3, Try.ntmps3
  go_upto_region 2 with (first
    | (go_at_call 9; (with_reducible refine (at_any _ _ _).mono ?_); rintro e w' ⟨rfl, hb⟩; replace H : Hid (Below w.heap.size w w') := hide (kept_trans H.out hb); clear hb)
    | (go_at_call 8; refine (new_any _ 3 3 [(1, 2), (0, 3), (1, 2)] _ rfl (ins_row (cs := #[.int .i64 1, .int .i64 2, .int .i64 0, .int .i64 3, .int .i64 1, .int .i64 2]) (Row.new _ _ _) rfl) O3.out (by omega)).mono ?_; rintro e w' ⟨g, b, rfl, hS, hg, hb0, hb⟩; have K : Hid (Kp w w' g b [(0, 3), (1, 2)]) := hide ⟨mk3 ▸ hS, (kept_alloc H.out _).trans (hb.mono (kept_alloc H.out _).size), Nat.le_trans (kept_alloc H.out _).size hg, Nat.le_trans (kept_alloc H.out _).size hb0⟩; clear hS hg hb0 hb H))
  have o1 := O1.out
  have o2 := O2.out
  clear O1 O2 O3
  have O1 := hide o1; have O2 := hide o2
  clear o1 o2
  have heq := eql_ballot
  go_upto_region 4 with (first
    | (go_at_call 10; refine (len_any g b _ _ K.out.set).mono ?_; rintro e w' ⟨rfl, q, rfl⟩; replace K := hide (K.out.drewN q))
    | (go_at_call 12; refine (list_any g b _ _ K.out.set (by simp)).mono ?_; rintro e w' ⟨v, rfl, hM⟩; obtain ⟨A, c, rfl, hA⟩ := hM.slice; replace K := hide (K.out.below hM.2.2); have I := hide hA; clear hM hA)
    | (go_at_call 9; (with_reducible refine (at_any _ _ _).mono ?_); rintro e w' ⟨rfl, hb⟩; replace K := hide (K.out.below hb); replace I := hide (I.out.below hb); clear hb)
    | (go_at_call 11; refine (same_inst _ _ 2 2 _ 2 [(0, 3), (1, 2)] [(0, 3), (1, 2)] _ rfl rfl (I.out.below ((Below.refl _ _).alloc (Nat.le_refl _) _)) (ins_row (cs := #[.int .i64 0, .int .i64 3, .int .i64 1, .int .i64 2]) (Row.new _ _ _) rfl) (by omega) (by omega)).mono ?_; rintro e w' ⟨rfl, q, rfl⟩; replace K := hide ((K.out.alloc (.cells #[.int .i64 0, .int .i64 3, .int .i64 1, .int .i64 2] 25)).drewN q); clear I))
  have KW := K
  clear K
  generalize hV : (World.drewN (World.alloc _ _) _) = V at KW ⊢
  clear hV
  have K := KW
  clear KW
  have i1 : ins ((0 : Int), (3 : Int)) [(0, 3), (1, 2)] = [(0, 3), (1, 2)] := by decide
  have i2 : del ((1 : Int), (2 : Int)) [(0, 3), (1, 2)] = [(0, 3)] := by decide
  have I1 := hide i1
  have I2 := hide i2
  clear i1 i2
  go_upto_region 5 with (first
    | (go_at_call 9; (with_reducible refine (at_any _ _ _).mono ?_); rintro e w' ⟨rfl, hb⟩; replace K := hide (K.out.below hb); clear hb)
    | (go_at_call 13; refine (add_any g b _ 0 3 _ K.out.set O2.out (by unfold maxLen; simp)).mono ?_; rintro e w' ⟨rfl, hS, hg⟩; replace K : Hid (Kp w w' g b [(0, 3), (1, 2)]) := hide (K.out.turned (I1.out ▸ hS) hg); clear hS hg)
    | (go_at_call 14; refine (drop_any g b _ 1 2 _ K.out.set O1.out).mono ?_; rintro e w' ⟨rfl, hS, hg⟩; replace K : Hid (Kp w w' g b [(0, 3)]) := hide (K.out.turned (I2.out ▸ hS) hg); clear hS hg))
  have t3 : sameB (wrap64 4) 2 4 2 = true := by unfold sameB wrap64; decide
  have t1 : ltP ((0 : Int), (9 : Int)) (1, 1) = true := by decide
  have t2 : ltP ((1 : Int), (5 : Int)) (2, 0) = true := by decide
  go_wp2_with (first
    | (go_at_call 9; (with_reducible refine (at_any _ _ _).mono ?_); rintro e w' ⟨rfl, hb⟩; replace K := hide (K.out.below hb); clear hb)
    | (go_at_call 15; (with_reducible refine (less_at 0 9 1 1 _).mono ?_); rintro e w' ⟨rfl, hb⟩; replace K := hide (K.out.below hb); clear hb)
    | (go_at_call 16; (with_reducible refine (below_any 1 5 2 0 _).mono ?_); rintro e w' ⟨rfl, hb⟩; replace K := hide (K.out.below hb); clear hb)
    | (go_at_call 17; (with_reducible refine (next_any 3 1 2 _).mono ?_); rintro e w' ⟨rfl, hb⟩; replace K := hide (K.out.below hb); clear hb)
    | (go_at_call 18; refine (has_any g b _ 1 2 _ K.out.set O1.out).mono ?_; rintro e w' ⟨rfl, hb⟩; replace K := hide (K.out.below hb); clear hb))
  go_ret
  exact ⟨rfl, K.out.low⟩
end Go.Proofs.Ytnbknhgfjjgcjaa
