/- append of structs of ints as one step of a region that draws its order; where the new slice lies. No condition: nothing here speaks of one function. -/
import Derived.Test.YtpngcocmjbkfgaaIts
import Derived.Deep.RegionHeld3
namespace Go.Proofs.Ytpngcocmjbkfgaa
open Go.RowKit
/-- What append gives lies where the old one lay, or in a new block. -/
theorem append_where {P : Program} {w : World} {s : Nat} (base : Nat) (t ty e : TypeId) (i : TypeInfo) (z : Value) (ht : P.underlying t = some (.slice e)) (hi : P.info? e = some i) (hz : i.zero = some z) (hsize : i.size = s) (hby : i.bytes ≤ 64) (hs0 : 0 < s)
    (v : Value) (n : Nat) (xs : List (List Int)) (hown : w.ownsRow base e s v n (cellsL xs))
    (A : Option Addr) (m c : Nat) (zs : List (List Int)) (ha : All s zs) (hm : zs.length = m) (hc : A = none → c = 0) (hl : Its s w A zs) (hb : n + m ≤ 1000000000) {v' : Value} {w' : World} (hr : (Builtin.append_ #[t, t] ty #[v, .slice A m c]).run P w = .ok v' w') :
    ∀ k, v'.ownBlock = some k → v.ownBlock = some k ∨ w.heap.size ≤ k := by
  subst hm hsize
  have hbm : (n + zs.length) * i.bytes ≤ 140737488355328 := Nat.le_trans (Nat.mul_le_mul hb hby) (by omega)
  rcases A with _ | ad
  · obtain rfl := hl.none_
    obtain rfl := hc rfl
    have h2 := run_append_owned_none (P := P) (w := w) base t ty e i i.size ht hi v n (cellsL xs) hown
    rw [show ([] : List (List Int)).length = 0 from rfl, h2] at hr
    injection hr with e1 _
    intro k hk
    rw [← e1] at hk
    exact .inl hk
  · have hsp : ∀ j u, (cellsL zs)[j]? = some u → w.cell? (ad.add j) = some u := fun j u hj => by
      rcases zs with _ | ⟨x, r⟩
      · cases hj
      · obtain ⟨b, off, e, _⟩ := hl (by simp)
        injection e with e
        subst e
        exact hl.cells ha j u hj
    have hln := length_cellsL ha
    rcases hown.2 with ⟨rfl, rfl⟩ | ⟨g, cap, cur, rfl, hbg, hg, hnc, hcm, hcs, htake⟩
    · by_cases hm : zs.length = 0
      · obtain rfl := List.eq_nil_of_length_eq_zero hm
        intro k hk
        have h2 : (Builtin.append_ #[t, t] ty #[.slice none 0 0, .slice (some ad) 0 c]).run P w = .ok (.slice none 0 0) w := by
          simp [Builtin.append_, run_underlying ht, sizeOf, typeInfo, hi, Builtin.lenOf, Builtin.firstCells, loadCells, loadCellsFrom]
        rw [show ([] : List (List Int)).length = 0 from rfl, h2] at hr
        injection hr with e1 _
        rw [← e1] at hk
        exact .inl hk
      · have h2 := run_append_nil (P := P) w t ty e i z ht hi hz ad zs.length c (cellsL zs) hln hsp (by omega) (by omega) (by simp only [Nat.zero_add] at hbm; omega)
        rw [h2] at hr
        injection hr with e1 _
        intro k hk
        rw [← e1] at hk
        simp [Value.ownBlock] at hk
        exact .inr (by omega)
    · by_cases hroom : n + zs.length ≤ cap
      · have hfit : n * i.size + (cellsL zs).length ≤ cur.size := by rw [hln, hcs, ← Nat.add_mul]; exact Nat.mul_le_mul_right _ hroom
        have h2 := run_append_room (P := P) w t ty e i ht hi g n cap cur hg ad zs.length c (cellsL zs) hln hsp cellsL_one hroom hfit
        rw [h2] at hr
        injection hr with e1 _
        intro k hk
        rw [← e1] at hk
        exact .inl hk
      · have holds : ∀ j u, (cellsL xs)[j]? = some u → w.cell? ((⟨g, 0, none⟩ : Addr).add j) = some u := hown.cells (g := g) rfl
        have h2 := run_append_grow (P := P) w t ty e i z ht hi hz ⟨g, 0, none⟩ n cap (cellsL xs) hown.1 holds ad zs.length c (cellsL zs) hln hsp (by omega) (by omega) (growslice_fits (by omega) hbm)
        rw [h2] at hr
        injection hr with e1 _
        intro k hk
        rw [← e1] at hk
        simp [Value.ownBlock] at hk
        exact .inr (by omega)
theorem step_append_its {P : Program} {w : World} {ops : Array Oper} {o : Oper} {a : Act} {K : Act → World → Prop} {Q : Exit → Act → World → Prop} {E : Prop} {sz : Nat} (hgd : o.guard = none) (s x : Operand) (t : TypeId)
    (ho : o.op = .call { callee := .builtin .append, args := #[s, x], argTypes := #[t, t] })
    (base : Nat) (e : TypeId) (i : TypeInfo) (z : Value) (ht : P.underlying t = some (.slice e)) (hi : P.info? e = some i) (hz : i.zero = some z) (hsize : i.size = sz) (hby : i.bytes ≤ 64) (hs0 : 0 < sz) (hzs : z.cells.size = sz)
    (v : Value) (n : Nat) (xs : List (List Int)) (hs : a.eval s = v) (hown : w.ownsRow base e sz v n (cellsL xs))
    (A : Option Addr) (m c : Nat) (zs : List (List Int)) (hx : a.eval x = .slice A m c) (ha : All sz zs) (hm : zs.length = m) (hc : A = none → c = 0) (hl : Its sz w A zs) (hb : n + m ≤ 1000000000) (hbase : base ≤ w.heap.size)
    (h : ∀ v' w', w'.ownsRow base e sz v' (n + m) (cellsL (xs ++ zs)) → w.grownBy w' v.ownBlock → (∀ k, v'.ownBlock = some k → v.ownBlock = some k ∨ w.heap.size ≤ k) → K (a.put o.dst v') w') :
    if Region.wanted o (yielded ops a.tmps) = true then Oper.wp P o a w K Q else E := by
  have hw : Region.wanted o (yielded ops a.tmps) = true := by simp [Region.wanted, hgd]
  rw [if_pos hw]
  obtain ⟨v', w', hr, h2, h3, _⟩ := run_append_its (P := P) (w := w) base t o.type e i z ht hi hz hsize hby hs0 hzs v n xs hown A m c zs ha hm hc hl hb hbase
  have h4 := append_where base t o.type e i z ht hi hz hsize hby hs0 v n xs hown A m c zs ha hm hc hl hb hr
  unfold Oper.wp execOp
  simp only [ho, resolve, invoke, builtin, Sem.run_bind, Sem.run_pure, Result.andThen_ok, List.map_toArray, List.map_cons, List.map_nil, hs, hx, hr]
  exact h v' w' h2 h3 h4
end Go.Proofs.Ytpngcocmjbkfgaa
