/- The document's own Log in memory. No condition: no walk. -/
import Derived.Test.YtiaegloipnhhdaaWk
import Derived.Test.YtiaegloipnhhdaaWl
import Derived.Test.YtiaegloipnhhdaaWf
import Derived.Test.YtiaegloipnhhdaaWg
import Derived.Test.YtiaegloipnhhdaaWa
import Derived.LoopTactic
import Derived.BigQuiet
import Derived.Lib.MinMax
namespace Go.Proofs.Ytiaegloipnhhdaa
set_option maxRecDepth 100000
open Go.RowKit
def iV (k : List Lc) : List (List Value) := k.map fun e => [.int .i64 e.i.1, .int .i64 e.i.2]
def cV (k : List Lc) : List (List Value) := k.map fun e => e.c.l
theorem iV_len (k : List Lc) : (iV k).length = k.length := List.length_map _
theorem cV_len (k : List Lc) : (cV k).length = k.length := List.length_map _
theorem iV_all (k : List Lc) : AllV 2 (iV k) := fun x hx => by
  obtain ⟨e, _, rfl⟩ := List.mem_map.1 hx
  exact ⟨rfl, fun u hu => by simp at hu; rcases hu with rfl | rfl <;> rfl⟩
theorem cV_all {k : List Lc} (h : ∀ e, e ∈ k → e.c.a.length = 8) : AllV 21 (cV k) := fun x hx => by
  obtain ⟨e, he, rfl⟩ := List.mem_map.1 hx
  exact ⟨Cl.len (h e he), one_cl e.c⟩
theorem iV_app (k l : List Lc) : iV (k ++ l) = iV k ++ iV l := List.map_append
theorem cV_app (k l : List Lc) : cV (k ++ l) = cV k ++ cV l := List.map_append
/-- A Log's nine cells. -/
def lgC (vI vC : Value) (d : List Int) : Array Value := (vI :: vC :: d.map (Value.int .i64)).toArray
theorem lgC_cut (vI vC : Value) (d : List Int) {k : Nat} (hk : k < d.length) : (lgC vI vC d)[2 + k]? = some (.int .i64 (ix d k)) := by
  unfold lgC
  rw [List.getElem?_toArray, show 2 + k = k + 1 + 1 by omega, List.getElem?_cons_succ, List.getElem?_cons_succ, List.getElem?_map, List.getElem?_eq_getElem hk, ix_lt _ hk]
  rfl
theorem lgC_put0 (vI vC u : Value) (d : List Int) : (lgC vI vC d).setIfInBounds 0 u = lgC u vC d := by unfold lgC; rw [List.setIfInBounds_toArray]; rfl
theorem lgC_put1 (vI vC u : Value) (d : List Int) : (lgC vI vC d).setIfInBounds 1 u = lgC vI u d := by unfold lgC; rw [List.setIfInBounds_toArray]; rfl
theorem lgC_cutp (vI vC : Value) (d : List Int) (k : Nat) (z : Int) : (lgC vI vC d).setIfInBounds (2 + k) (.int .i64 z) = lgC vI vC (d.set k z) := by
  unfold lgC
  rw [List.setIfInBounds_toArray, show 2 + k = k + 1 + 1 by omega, List.set_cons_succ, List.set_cons_succ, List.map_set]
/-- The Log at block g. -/
structure Ro (base : Nat) (w : World) (g : Nat) (vI vC : Value) (k : List Lc) (d : List Int) : Prop where
  row : Row w g 48 (lgC vI vC d)
  ri : Rw base 28 2 w vI (iV k)
  rc : Rw base 37 21 w vC (cV k)
  d7 : d.length = 7
  l8 : ∀ e, e ∈ k → e.c.a.length = 8
def roO (g : Nat) (vI vC : Value) (k : Nat) : Prop := k = g ∨ vI.ownBlock = some k ∨ vC.ownBlock = some k
section
variable {base g : Nat} {w w' : World} {vI vC : Value} {k : List Lc} {d : List Int}
theorem Ro.keep {o : Nat → Prop} (h : Ro base w g vI vC k d) (hk : Kq o w w') (ho : ∀ j, roO g vI vC j → ¬ o j) : Ro base w' g vI vC k d :=
  ⟨hk.row h.row (ho g (.inl rfl)), hk.own h.ri (fun j e => ho j (.inr (.inl e))), hk.own h.rc (fun j e => ho j (.inr (.inr e))), h.d7, h.l8⟩
theorem Ro.below (h : Ro base w g vI vC k d) (hb : Below w.heap.size w w') : Ro base w' g vI vC k d := h.keep (o := fun _ => False) (.of_below hb) (fun _ _ e => e)
theorem Ro.alloc (h : Ro base w g vI vC k d) (o : Obj) : Ro base (w.alloc o) g vI vC k d := h.below ((Below.refl _ _).alloc (Nat.le_refl _) o)
theorem Ro.drew (h : Ro base w g vI vC k d) : Ro base w.drew g vI vC k d := h.below (kept_drewN (kept_refl w) 1)
theorem Ro.form (h : Ro base w g vI vC k d) : ∃ A a B b, vI = .slice A k.length a ∧ vC = .slice B k.length b ∧ k.length ≤ a ∧ k.length ≤ b := by
  obtain ⟨A, a, e1, _, h1, _, _⟩ := els_own_form h.ri
  obtain ⟨B, b, e2, _, h2, _, _⟩ := els_own_form h.rc
  rw [iV_len] at e1 h1
  rw [cV_len] at e2 h2
  exact ⟨A, a, B, b, e1, e2, h1, h2⟩
theorem Ro.c0 (h : Ro base w g vI vC k d) : w.cell? ⟨g, 0, none⟩ = some vI := h.row.cell 0
theorem Ro.c1 (h : Ro base w g vI vC k d) : w.cell? ⟨g, 1, none⟩ = some vC := h.row.cell 1
theorem Ro.cut (h : Ro base w g vI vC k d) {j : Nat} (hj : j < 7) : w.cell? ⟨g, 2 + j, none⟩ = some (.int .i64 (ix d j)) := by rw [h.row.cell, lgC_cut _ _ _ (by rw [h.d7]; exact hj)]
theorem Ro.lt (h : Ro base w g vI vC k d) : g < w.heap.size := h.row.lt
/-- What stands at place j. -/
theorem Ro.at_ {A B : Option Addr} {n a b : Nat} (h : Ro base w g (.slice A n a) (.slice B n b) k d) {j : Nat} {e : Lc} (he : k[j]? = some e) : ∃ gI gC, A = some ⟨gI, 0, none⟩ ∧ B = some ⟨gC, 0, none⟩ ∧
    w.cell? ⟨gI, j * 2, none⟩ = some (.int .i64 e.i.1) ∧ w.cell? ⟨gI, j * 2 + 1, none⟩ = some (.int .i64 e.i.2) ∧ w.rangeAt gC (j * 21) e.c.l ∧ gI < w.heap.size ∧ gC < w.heap.size := by
  have hj : j < k.length := (List.getElem?_eq_some_iff.1 he).1
  have own : ∀ {sz : Nat} {ty : TypeId} {V : Option Addr} {m : Nat} {xs : List (List Value)}, Rw base ty sz w (.slice V n m) xs → xs.length = k.length → AllV sz xs → 0 < sz → ∃ gg, V = some ⟨gg, 0, none⟩ ∧ gg < w.heap.size ∧ ∀ y, xs[j]? = some y → ∀ i, i < sz → w.cell? ⟨gg, j * sz + i, none⟩ = y[i]? := fun {sz ty V m xs} hw hl ha hs => by
    unfold Rw at hw
    have hn : n = xs.length := by
      rcases hw.2 with ⟨e1, h0⟩ | ⟨_, _, _, e1, _⟩
      · injection e1 with _ e2 _
        omega
      · injection e1
    subst hn
    obtain ⟨gg, cc, e1⟩ : ∃ gg cc, Value.slice V xs.length m = .slice (some ⟨gg, 0, none⟩) xs.length cc := by
      rcases hw.2 with ⟨_, h0⟩ | ⟨gg, cc, _, e1, _⟩
      · omega
      · exact ⟨gg, cc, e1⟩
    injection e1 with e1 _ _
    subst e1
    refine ⟨gg, rfl, ?_, fun y hy i hi => ?_⟩
    · rcases hw.2 with ⟨e1, _⟩ | ⟨g2, cc, cur, e1, _, hh, _⟩
      · cases e1
      · injection e1 with e1
        injection e1 with e1
        injection e1 with e1
        rw [e1]
        exact (Array.getElem?_eq_some_iff.1 hh).1
    · obtain ⟨b', off, e2, _, hc⟩ := Els.at_ (els_own hw ha hs).1 hy
      injection e2 with e2
      injection e2 with e2 e3 _
      subst e2
      subst e3
      have := hc i hi
      rwa [Nat.zero_add] at this
  obtain ⟨gI, rfl, hI0, hI⟩ := own h.ri (iV_len _) (iV_all _) (by omega)
  obtain ⟨gC, rfl, hC0, hC⟩ := own h.rc (cV_len _) (cV_all h.l8) (by omega)
  have l := hI [.int .i64 e.i.1, .int .i64 e.i.2] (by unfold iV; rw [List.getElem?_map, he]; rfl)
  have c := hC e.c.l (by unfold cV; rw [List.getElem?_map, he]; rfl)
  refine ⟨gI, gC, rfl, rfl, l 0 (by omega), l 1 (by omega), fun i v hv => ?_, hI0, hC0⟩
  rw [c i (by have := (List.getElem?_eq_some_iff.1 hv).1; rw [Cl.len (h.l8 e (List.mem_of_getElem? he))] at this; exact this), hv]
end
end Go.Proofs.Ytiaegloipnhhdaa
/- The document's Gone, at, Cell. No condition. -/
namespace Go.Proofs.Ytiaegloipnhhdaa
set_option maxRecDepth 100000
open Go.RowKit
theorem refrightinst_any (r s : Int) (w : World) : Calls Try.prog 36 #[.agg #[.int .i64 r, .int .i64 s]] w fun e w' => e = .returned (.bool (rightI r s)) ∧ Below w.heap.size w w' := by
  show Calls _ _ _ w fun e w' => e = .returned (.bool ((decide (0 ≤ r) && decide (r < 7)) && decide (1 ≤ s) && decide (s ≤ 1073741824))) ∧ Below w.heap.size w w'
  go_enter Try.func36, Try.ntmps36
  go_wp2
  all_goals (go_ret; exact ⟨ret_bool (by first | (simp [*]; done) | (simp [*] <;> omega)), (Below.refl _ _).alloc (Nat.le_refl _) _⟩)
theorem gone_right {d : List Int} {i1 i2 : Int} {r : Nat} (h : i1 = r) (hr : rightI i1 i2 = true) : goneL d (i1, i2) = decide (i2 ≤ ix d r) := by
  unfold goneL
  rw [hr, Bool.true_and, h]
  rfl
set_option maxHeartbeats 4000000 in
theorem rgone_any {base g : Nat} {w : World} {vI vC : Value} {k : List Lc} {d : List Int} (h : Ro base w g vI vC k d) (i1 i2 : Int) :
    Calls Try.prog 20 #[.pointer (some ⟨g, 0, none⟩), .agg #[.int .i64 i1, .int .i64 i2]] w fun e w' => e = .returned (.bool (goneL d (i1, i2))) ∧ Below w.heap.size w w' := by
  have HO := hide (h.alloc (.cells #[.int .i64 i1, .int .i64 i2] 28))
  have HI := hide (Row.new w 28 #[.int .i64 i1, .int .i64 i2])
  have HB := hide ((Below.refl w.heap.size w).alloc (Nat.le_refl _) (.cells #[.int .i64 i1, .int .i64 i2] 28))
  have HC := hide (fun w => refrightinst_any i1 i2 w)
  clear h
  cases hq : rightI i1 i2
  · have e : goneL d (i1, i2) = false := by unfold goneL; rw [hq]; rfl
    rw [e]
    simp only [hq] at HC
    clear hq e
    go_enter Try.func20, Try.ntmps20
    go_upto_region 1 with (fail)
    generalize w.alloc (.cells #[.int .i64 i1, .int .i64 i2] 28) = w0 at HO HI HB ⊢
    generalize w.heap.size = b at HI ⊢
    refine wp_region_noPanic ?_
    refine wp_region_U 14 (fun w' : World => Below w0.heap.size w0 w') (by kernel_rfl) ?_
    have HD := hide (show (fun w' : World => Below w0.heap.size w0 w') w0.drew from kept_drewN (kept_refl _) 1)
    generalize w0.drew = wd at HD ⊢
    refine anyU_take2 (i := 0) (v := .agg #[.int .i64 i1, .int .i64 i2]) (by simp only [List.getElem?_toArray, List.getElem?_cons_zero]; exact rfl) (by kernel_rfl) 12 (by kernel_rfl) (by kernel_rfl) (fun _ _ _ h => h) (by kernel_rfl) (by kernel_rfl) (by kernel_rfl) (by kernel_rfl) (Or.inl ⟨by rfl, fun w hSw => (by have c0 := (HI.out.below hSw HI.out.lt).cell 0; have c1 := (HI.out.below hSw HI.out.lt).cell 1; go_simp; try with_reducible rfl)⟩) (by with_reducible exact HD.out) ?_
    try simp only [Act.put, List.setIfInBounds_toArray, List.set_cons_zero, List.set_cons_succ]
    refine anyU_one (i := 1) (by kernel_rfl) (by simp only [List.getElem?_toArray, List.getElem?_cons_succ, List.getElem?_cons_zero]; exact rfl) (fun K hK => ?_)
    try go_simp
    refine (HC.out _).mono ?_
    rintro e w2 ⟨rfl, hb⟩
    have HD := hide (show (fun w' : World => Below w0.heap.size w0 w') w2 from kept_trans HD.out hb)
    clear hb
    refine hK.out _ _ (fun _ _ => HD.out) ?_
    clear hK K
    skip
    refine anyU_take2 (i := 2) (v := .bool false) (by simp only [List.getElem?_toArray, List.getElem?_cons_succ, List.getElem?_cons_zero]; exact rfl) (by kernel_rfl) 12 (by kernel_rfl) (by kernel_rfl) (fun _ _ _ h => h) (by kernel_rfl) (by kernel_rfl) (by kernel_rfl) (by kernel_rfl) (Or.inl ⟨by rfl, fun w hSw => (by go_simp; try with_reducible rfl)⟩) (by with_reducible exact HD.out) ?_
    try simp only [Act.put, List.setIfInBounds_toArray, List.set_cons_zero, List.set_cons_succ]
    refine anyU_take2 (i := 3) (v := undef) (by simp only [List.getElem?_toArray, List.getElem?_cons_succ, List.getElem?_cons_zero]; exact rfl) (by kernel_rfl) 12 (by kernel_rfl) (by kernel_rfl) (fun _ _ _ h => h) (by kernel_rfl) (by kernel_rfl) (by kernel_rfl) (by kernel_rfl) (Or.inr ⟨by rfl, by rfl⟩) (by with_reducible exact HD.out) ?_
    try simp only [Act.put, List.setIfInBounds_toArray, List.set_cons_zero, List.set_cons_succ]
    refine anyU_take2 (i := 4) (v := undef) (by simp only [List.getElem?_toArray, List.getElem?_cons_succ, List.getElem?_cons_zero]; exact rfl) (by kernel_rfl) 12 (by kernel_rfl) (by kernel_rfl) (fun _ _ _ h => h) (by kernel_rfl) (by kernel_rfl) (by kernel_rfl) (by kernel_rfl) (Or.inr ⟨by rfl, by rfl⟩) (by with_reducible exact HD.out) ?_
    try simp only [Act.put, List.setIfInBounds_toArray, List.set_cons_zero, List.set_cons_succ]
    refine anyU_take2 (i := 5) (v := undef) (by simp only [List.getElem?_toArray, List.getElem?_cons_succ, List.getElem?_cons_zero]; exact rfl) (by kernel_rfl) 12 (by kernel_rfl) (by kernel_rfl) (fun _ _ _ h => h) (by kernel_rfl) (by kernel_rfl) (by kernel_rfl) (by kernel_rfl) (Or.inr ⟨by rfl, by rfl⟩) (by with_reducible exact HD.out) ?_
    try simp only [Act.put, List.setIfInBounds_toArray, List.set_cons_zero, List.set_cons_succ]
    refine anyU_take2 (i := 6) (v := undef) (by simp only [List.getElem?_toArray, List.getElem?_cons_succ, List.getElem?_cons_zero]; exact rfl) (by kernel_rfl) 12 (by kernel_rfl) (by kernel_rfl) (fun _ _ _ h => h) (by kernel_rfl) (by kernel_rfl) (by kernel_rfl) (by kernel_rfl) (Or.inr ⟨by rfl, by rfl⟩) (by with_reducible exact HD.out) ?_
    try simp only [Act.put, List.setIfInBounds_toArray, List.set_cons_zero, List.set_cons_succ]
    refine anyU_take2 (i := 7) (v := undef) (by simp only [List.getElem?_toArray, List.getElem?_cons_succ, List.getElem?_cons_zero]; exact rfl) (by kernel_rfl) 12 (by kernel_rfl) (by kernel_rfl) (fun _ _ _ h => h) (by kernel_rfl) (by kernel_rfl) (by kernel_rfl) (by kernel_rfl) (Or.inr ⟨by rfl, by rfl⟩) (by with_reducible exact HD.out) ?_
    try simp only [Act.put, List.setIfInBounds_toArray, List.set_cons_zero, List.set_cons_succ]
    refine anyU_take2 (i := 8) (v := undef) (by simp only [List.getElem?_toArray, List.getElem?_cons_succ, List.getElem?_cons_zero]; exact rfl) (by kernel_rfl) 12 (by kernel_rfl) (by kernel_rfl) (fun _ _ _ h => h) (by kernel_rfl) (by kernel_rfl) (by kernel_rfl) (by kernel_rfl) (Or.inr ⟨by rfl, by rfl⟩) (by with_reducible exact HD.out) ?_
    try simp only [Act.put, List.setIfInBounds_toArray, List.set_cons_zero, List.set_cons_succ]
    refine anyU_take2 (i := 9) (v := undef) (by simp only [List.getElem?_toArray, List.getElem?_cons_succ, List.getElem?_cons_zero]; exact rfl) (by kernel_rfl) 12 (by kernel_rfl) (by kernel_rfl) (fun _ _ _ h => h) (by kernel_rfl) (by kernel_rfl) (by kernel_rfl) (by kernel_rfl) (Or.inr ⟨by rfl, by rfl⟩) (by with_reducible exact HD.out) ?_
    try simp only [Act.put, List.setIfInBounds_toArray, List.set_cons_zero, List.set_cons_succ]
    refine anyU_take2 (i := 10) (v := undef) (by simp only [List.getElem?_toArray, List.getElem?_cons_succ, List.getElem?_cons_zero]; exact rfl) (by kernel_rfl) 12 (by kernel_rfl) (by kernel_rfl) (fun _ _ _ h => h) (by kernel_rfl) (by kernel_rfl) (by kernel_rfl) (by kernel_rfl) (Or.inr ⟨by rfl, by rfl⟩) (by with_reducible exact HD.out) ?_
    try simp only [Act.put, List.setIfInBounds_toArray, List.set_cons_zero, List.set_cons_succ]
    refine anyU_take2 (i := 11) (v := undef) (by simp only [List.getElem?_toArray, List.getElem?_cons_succ, List.getElem?_cons_zero]; exact rfl) (by kernel_rfl) 12 (by kernel_rfl) (by kernel_rfl) (fun _ _ _ h => h) (by kernel_rfl) (by kernel_rfl) (by kernel_rfl) (by kernel_rfl) (Or.inr ⟨by rfl, by rfl⟩) (by with_reducible exact HD.out) ?_
    try simp only [Act.put, List.setIfInBounds_toArray, List.set_cons_zero, List.set_cons_succ]
    refine anyU_take2 (i := 12) (v := undef) (by simp only [List.getElem?_toArray, List.getElem?_cons_succ, List.getElem?_cons_zero]; exact rfl) (by kernel_rfl) 12 (by kernel_rfl) (by kernel_rfl) (fun _ _ _ h => h) (by kernel_rfl) (by kernel_rfl) (by kernel_rfl) (by kernel_rfl) (Or.inr ⟨by rfl, by rfl⟩) (by with_reducible exact HD.out) ?_
    try simp only [Act.put, List.setIfInBounds_toArray, List.set_cons_zero, List.set_cons_succ]
    refine anyU_take2 (i := 13) (v := .bool false) (by simp only [List.getElem?_toArray, List.getElem?_cons_succ, List.getElem?_cons_zero]; exact rfl) (by kernel_rfl) 12 (by kernel_rfl) (by kernel_rfl) (fun _ _ _ h => h) (by kernel_rfl) (by kernel_rfl) (by kernel_rfl) (by kernel_rfl) (Or.inl ⟨by rfl, fun w hSw => (by go_simp; try with_reducible rfl)⟩) (by with_reducible exact HD.out) ?_
    try simp only [Act.put, List.setIfInBounds_toArray, List.set_cons_zero, List.set_cons_succ]
    refine anyU_one (i := 14) (by kernel_rfl) (by simp only [List.getElem?_toArray, List.getElem?_cons_succ, List.getElem?_cons_zero]; exact rfl) (fun K hK => ?_)
    try go_simp
    refine hK.out _ _ (fun e _ => absurd rfl e) ?_
    clear hK K
    try simp only [Act.put]
    refine anyU_done (by kernel_rfl) ?_
    refine NoPanic.normal ?_
    try simp only [Act.put]
    go_wp2
    go_ret
    exact ⟨rfl, kept_trans HB.out HD.out⟩
  · obtain ⟨r, hr⟩ : ∃ r : Nat, i1 = r := ⟨i1.toNat, by unfold rightI repB at hq; simp only [Bool.and_eq_true, decide_eq_true_eq] at hq; omega⟩
    have hr7 : r < 7 := by unfold rightI repB at hq; simp only [Bool.and_eq_true, decide_eq_true_eq] at hq; omega
    have hri : (r : Int) < 7 := by omega
    rw [gone_right hr hq]
    simp only [hq] at HC
    clear hq
    subst hr
    go_enter Try.func20, Try.ntmps20
    go_upto_region 1 with (fail)
    generalize w.alloc (.cells #[.int .i64 (r : Int), .int .i64 i2] 28) = w0 at HO HI HB ⊢
    generalize w.heap.size = b at HI ⊢
    refine wp_region_noPanic ?_
    refine wp_region_U 14 (fun w' : World => Below w0.heap.size w0 w') (by kernel_rfl) ?_
    have HD := hide (show (fun w' : World => Below w0.heap.size w0 w') w0.drew from kept_drewN (kept_refl _) 1)
    generalize w0.drew = wd at HD ⊢
    refine anyU_take2 (i := 0) (v := .agg #[.int .i64 (r : Int), .int .i64 i2]) (by simp only [List.getElem?_toArray, List.getElem?_cons_zero]; exact rfl) (by kernel_rfl) 12 (by kernel_rfl) (by kernel_rfl) (fun _ _ _ h => h) (by kernel_rfl) (by kernel_rfl) (by kernel_rfl) (by kernel_rfl) (Or.inl ⟨by rfl, fun w hSw => (by have c0 := (HI.out.below hSw HI.out.lt).cell 0; have c1 := (HI.out.below hSw HI.out.lt).cell 1; go_simp; try with_reducible rfl)⟩) (by with_reducible exact HD.out) ?_
    try simp only [Act.put, List.setIfInBounds_toArray, List.set_cons_zero, List.set_cons_succ]
    refine anyU_one (i := 1) (by kernel_rfl) (by simp only [List.getElem?_toArray, List.getElem?_cons_succ, List.getElem?_cons_zero]; exact rfl) (fun K hK => ?_)
    try go_simp
    refine (HC.out _).mono ?_
    rintro e w2 ⟨rfl, hb⟩
    have HD := hide (show (fun w' : World => Below w0.heap.size w0 w') w2 from kept_trans HD.out hb)
    clear hb
    refine hK.out _ _ (fun _ _ => HD.out) ?_
    clear hK K
    skip
    refine anyU_take2 (i := 2) (v := .bool true) (by simp only [List.getElem?_toArray, List.getElem?_cons_succ, List.getElem?_cons_zero]; exact rfl) (by kernel_rfl) 12 (by kernel_rfl) (by kernel_rfl) (fun _ _ _ h => h) (by kernel_rfl) (by kernel_rfl) (by kernel_rfl) (by kernel_rfl) (Or.inl ⟨by rfl, fun w hSw => (by go_simp; try with_reducible rfl)⟩) (by with_reducible exact HD.out) ?_
    try simp only [Act.put, List.setIfInBounds_toArray, List.set_cons_zero, List.set_cons_succ]
    refine anyU_take2 (i := 3) (v := .pointer (some ⟨b, 1, none⟩)) (by simp only [List.getElem?_toArray, List.getElem?_cons_succ, List.getElem?_cons_zero]; exact rfl) (by kernel_rfl) 12 (by kernel_rfl) (by kernel_rfl) (fun _ _ _ h => h) (by kernel_rfl) (by kernel_rfl) (by kernel_rfl) (by kernel_rfl) (Or.inl ⟨by rfl, fun w hSw => (by go_simp; try with_reducible rfl)⟩) (by with_reducible exact HD.out) ?_
    try simp only [Act.put, List.setIfInBounds_toArray, List.set_cons_zero, List.set_cons_succ]
    refine anyU_take2 (i := 4) (v := .int .i64 i2) (by simp only [List.getElem?_toArray, List.getElem?_cons_succ, List.getElem?_cons_zero]; exact rfl) (by kernel_rfl) 12 (by kernel_rfl) (by kernel_rfl) (fun _ _ _ h => h) (by kernel_rfl) (by kernel_rfl) (by kernel_rfl) (by kernel_rfl) (Or.inl ⟨by rfl, fun w hSw => (by have c0 := (HI.out.below hSw HI.out.lt).cell 0; have c1 := (HI.out.below hSw HI.out.lt).cell 1; go_simp; try with_reducible rfl)⟩) (by with_reducible exact HD.out) ?_
    try simp only [Act.put, List.setIfInBounds_toArray, List.set_cons_zero, List.set_cons_succ]
    refine anyU_take2 (i := 5) (v := .pointer (some ⟨g, 0, none⟩)) (by simp only [List.getElem?_toArray, List.getElem?_cons_succ, List.getElem?_cons_zero]; exact rfl) (by kernel_rfl) 12 (by kernel_rfl) (by kernel_rfl) (fun _ _ _ h => h) (by kernel_rfl) (by kernel_rfl) (by kernel_rfl) (by kernel_rfl) (Or.inl ⟨by rfl, fun w hSw => (by go_simp; try with_reducible rfl)⟩) (by with_reducible exact HD.out) ?_
    try simp only [Act.put, List.setIfInBounds_toArray, List.set_cons_zero, List.set_cons_succ]
    refine anyU_take2 (i := 6) (v := .pointer (some ⟨b, 0, none⟩)) (by simp only [List.getElem?_toArray, List.getElem?_cons_succ, List.getElem?_cons_zero]; exact rfl) (by kernel_rfl) 12 (by kernel_rfl) (by kernel_rfl) (fun _ _ _ h => h) (by kernel_rfl) (by kernel_rfl) (by kernel_rfl) (by kernel_rfl) (Or.inl ⟨by rfl, fun w hSw => (by go_simp; try with_reducible rfl)⟩) (by with_reducible exact HD.out) ?_
    try simp only [Act.put, List.setIfInBounds_toArray, List.set_cons_zero, List.set_cons_succ]
    refine anyU_take2 (i := 7) (v := .int .i64 (r : Int)) (by simp only [List.getElem?_toArray, List.getElem?_cons_succ, List.getElem?_cons_zero]; exact rfl) (by kernel_rfl) 12 (by kernel_rfl) (by kernel_rfl) (fun _ _ _ h => h) (by kernel_rfl) (by kernel_rfl) (by kernel_rfl) (by kernel_rfl) (Or.inl ⟨by rfl, fun w hSw => (by have c0 := (HI.out.below hSw HI.out.lt).cell 0; have c1 := (HI.out.below hSw HI.out.lt).cell 1; go_simp; try with_reducible rfl)⟩) (by with_reducible exact HD.out) ?_
    try simp only [Act.put, List.setIfInBounds_toArray, List.set_cons_zero, List.set_cons_succ]
    refine anyU_take2 (i := 8) (v := .pointer (some ⟨g, 0, none⟩)) (by simp only [List.getElem?_toArray, List.getElem?_cons_succ, List.getElem?_cons_zero]; exact rfl) (by kernel_rfl) 12 (by kernel_rfl) (by kernel_rfl) (fun _ _ _ h => h) (by kernel_rfl) (by kernel_rfl) (by kernel_rfl) (by kernel_rfl) (Or.inl ⟨by rfl, fun w hSw => (by go_simp; try with_reducible rfl)⟩) (by with_reducible exact HD.out) ?_
    try simp only [Act.put, List.setIfInBounds_toArray, List.set_cons_zero, List.set_cons_succ]
    refine anyU_take2 (i := 9) (v := .pointer (some ⟨g, 2, none⟩)) (by simp only [List.getElem?_toArray, List.getElem?_cons_succ, List.getElem?_cons_zero]; exact rfl) (by kernel_rfl) 12 (by kernel_rfl) (by kernel_rfl) (fun _ _ _ h => h) (by kernel_rfl) (by kernel_rfl) (by kernel_rfl) (by kernel_rfl) (Or.inl ⟨by rfl, fun w hSw => (by go_simp; try with_reducible rfl)⟩) (by with_reducible exact HD.out) ?_
    try simp only [Act.put, List.setIfInBounds_toArray, List.set_cons_zero, List.set_cons_succ]
    refine anyU_take2 (i := 10) (v := .pointer (some ⟨g, 2 + r, none⟩)) (by simp only [List.getElem?_toArray, List.getElem?_cons_succ, List.getElem?_cons_zero]; exact rfl) (by kernel_rfl) 12 (by kernel_rfl) (by kernel_rfl) (fun _ _ _ h => h) (by kernel_rfl) (by kernel_rfl) (by kernel_rfl) (by kernel_rfl) (Or.inl ⟨by rfl, fun w hSw => (by go_simp; try with_reducible rfl)⟩) (by with_reducible exact HD.out) ?_
    try simp only [Act.put, List.setIfInBounds_toArray, List.set_cons_zero, List.set_cons_succ]
    refine anyU_take2 (i := 11) (v := .int .i64 (ix d r)) (by simp only [List.getElem?_toArray, List.getElem?_cons_succ, List.getElem?_cons_zero]; exact rfl) (by kernel_rfl) 12 (by kernel_rfl) (by kernel_rfl) (fun _ _ _ h => h) (by kernel_rfl) (by kernel_rfl) (by kernel_rfl) (by kernel_rfl) (Or.inl ⟨by rfl, fun w hSw => (by have cc := (HO.out.below hSw).cut hr7; go_simp; try with_reducible rfl)⟩) (by with_reducible exact HD.out) ?_
    try simp only [Act.put, List.setIfInBounds_toArray, List.set_cons_zero, List.set_cons_succ]
    refine anyU_take2 (i := 12) (v := .bool (decide (i2 ≤ ix d r))) (by simp only [List.getElem?_toArray, List.getElem?_cons_succ, List.getElem?_cons_zero]; exact rfl) (by kernel_rfl) 12 (by kernel_rfl) (by kernel_rfl) (fun _ _ _ h => h) (by kernel_rfl) (by kernel_rfl) (by kernel_rfl) (by kernel_rfl) (Or.inl ⟨by rfl, fun w hSw => (by go_simp; try with_reducible rfl)⟩) (by with_reducible exact HD.out) ?_
    try simp only [Act.put, List.setIfInBounds_toArray, List.set_cons_zero, List.set_cons_succ]
    refine anyU_take2 (i := 13) (v := .bool (decide (i2 ≤ ix d r))) (by simp only [List.getElem?_toArray, List.getElem?_cons_succ, List.getElem?_cons_zero]; exact rfl) (by kernel_rfl) 12 (by kernel_rfl) (by kernel_rfl) (fun _ _ _ h => h) (by kernel_rfl) (by kernel_rfl) (by kernel_rfl) (by kernel_rfl) (Or.inl ⟨by rfl, fun w hSw => (by go_simp; try with_reducible rfl)⟩) (by with_reducible exact HD.out) ?_
    try simp only [Act.put, List.setIfInBounds_toArray, List.set_cons_zero, List.set_cons_succ]
    refine anyU_one (i := 14) (by kernel_rfl) (by simp only [List.getElem?_toArray, List.getElem?_cons_succ, List.getElem?_cons_zero]; exact rfl) (fun K hK => ?_)
    try go_simp
    refine hK.out _ _ (fun e _ => absurd rfl e) ?_
    clear hK K
    try simp only [Act.put]
    refine anyU_done (by kernel_rfl) ?_
    refine NoPanic.normal ?_
    try simp only [Act.put]
    go_wp2
    go_ret
    exact ⟨rfl, kept_trans HB.out HD.out⟩
end Go.Proofs.Ytiaegloipnhhdaa
/- The document's at, Cell. No condition. -/
namespace Go.Proofs.Ytiaegloipnhhdaa
set_option maxRecDepth 100000
open Go.RowKit
theorem cell_below {n b o : Nat} {w w' : World} (h : Below n w w') (hb : b < n) : w'.cell? ⟨b, o, none⟩ = w.cell? ⟨b, o, none⟩ := by simp only [World.cell?, h.block b hb]
theorem here_mid {k : List Lc} {i : Int × Int} {e : Lc} (h : k[posL k i]? = some e) : hereL k i = sameP e.i i := by unfold hereL; rw [h]
theorem here_end {k : List Lc} {i : Int × Int} (h : k[posL k i]? = none) : hereL k i = false := by unfold hereL; rw [h]
set_option maxHeartbeats 8000000 in
theorem rat_any {base g : Nat} {w : World} {vI vC : Value} {k : List Lc} {d : List Int} (h : Ro base w g vI vC k d) (i1 i2 : Int) (hl : k.length ≤ 1000000000) :
    Calls Try.prog 38 #[.pointer (some ⟨g, 0, none⟩), .agg #[.int .i64 i1, .int .i64 i2]] w fun e w' => e = .returned (.tuple #[.int .i64 (posL k (i1, i2) : Nat), .bool (hereL k (i1, i2))]) ∧ Below w.heap.size w w' := by
  obtain ⟨A, a, B, b, rfl, rfl, ha, hb⟩ := h.form
  have HO := hide (h.alloc (.cells #[.int .i64 i1, .int .i64 i2] 28))
  have HI := hide (Row.new w 28 #[.int .i64 i1, .int .i64 i2])
  have HB := hide ((Below.refl w.heap.size w).alloc (Nat.le_refl _) (.cells #[.int .i64 i1, .int .i64 i2] 28))
  have hple := posL_le k (i1, i2)
  have HP := hide (fun (j : Nat) (e : Lc) (hj : j < posL k (i1, i2)) (he : k[j]? = some e) => posL_lt hj he)
  have HQ := hide (fun (e : Lc) (he : k[posL k (i1, i2)]? = some e) => posL_at he)
  have HM := hide (fun (e : Lc) (he : k[posL k (i1, i2)]? = some e) => here_mid he)
  have HE := hide (fun (he : k[posL k (i1, i2)]? = none) => here_end he)
  clear h
  generalize posL k (i1, i2) = q at HP HQ HM HE hple ⊢
  generalize hereL k (i1, i2) = y at HM HE ⊢
  obtain ⟨n, hn⟩ : ∃ n, k.length = n := ⟨_, rfl⟩
  rw [hn] at HO ha hb hl hple
  have HN := hide hn
  clear hn
  go_enter Try.func38, Try.ntmps38
  go_upto_region 1 with (fail)
  generalize w.alloc (.cells #[.int .i64 i1, .int .i64 i2] 28) = w0 at HO HI HB ⊢
  generalize w.heap.size = bi at HI ⊢
  go_wp2
  go_loopw [6] (fun i wr => ∃ j : Nat, j ≤ q ∧ i = .int .i64 j ∧ Hid (Below w0.heap.size w0 wr)) (fun i _ => q - (intOf i).toNat)
  case atStart => exact ⟨0, by omega, rfl, hide (Below.refl _ _)⟩
  case round =>
  obtain ⟨j, hj, rfl, LO⟩ := hrel
  replace HO := hide (HO.out.below LO.out)
  replace HI := hide (HI.out.below LO.out HI.out.lt)
  by_cases hjn : j < n
  · have hjni : (j : Int) < (n : Int) := by omega
    have hja : j < a := by omega
    have hjk : j < k.length := by rw [HN.out]; exact hjn
    have he : k[j]? = some k[j] := List.getElem?_eq_getElem hjk
    generalize k[j] = e at he
    obtain ⟨gI, gC, rfl, rfl, c0, c1, _, hgI, _⟩ := HO.out.at_ he
    have HGI := hide (fun (w : World) (h : Below wr.heap.size wr w) => (show w.cell? ⟨gI, j * 2, none⟩ = some (.int .i64 e.i.1) ∧ w.cell? ⟨gI, j * 2 + 1, none⟩ = some (.int .i64 e.i.2) ∧ w.cell? ⟨g, 0, none⟩ = some (.slice (some ⟨gI, 0, none⟩) n a) from ⟨by rw [← c0]; exact cell_below h hgI, by rw [← c1]; exact cell_below h hgI, (HO.out.below h).c0⟩))
    have HCL := hide (fun w => refless_any e.i.1 e.i.2 i1 i2 w)
    clear c0 c1 hgI
    have HJ := hide (show j < q → ltP (e.i.1, e.i.2) (i1, i2) = true from fun h => HP.out j e h he)
    have HJ2 := hide (show j = q → ltP (e.i.1, e.i.2) (i1, i2) = false ∧ y = sameP e.i (i1, i2) from fun h => by subst h; exact ⟨HQ.out e he, HM.out e he⟩)
    clear he hjk
    generalize ltP (e.i.1, e.i.2) (i1, i2) = l at HCL HJ HJ2
    cases l
    · obtain rfl : j = q := by rcases Nat.lt_or_ge j q with h1 | h1; · exact absurd (HJ.out h1) (by simp)
                               · omega
      have HY := hide (HJ2.out rfl).2
      clear HJ HJ2 HP HQ HM HE
      go_upto_region 2 with (fail)
      refine wp_region_noPanic ?_
      refine wp_region_U 17 (fun w' : World => Below wr.heap.size wr w') (by kernel_rfl) ?_
      have HD := hide (show (fun w' : World => Below wr.heap.size wr w') wr.drew from kept_drewN (kept_refl _) 1)
      generalize wr.drew = wd at HD ⊢
      refine anyU_take2 (i := 0) (v := .int .i64 (j : Nat)) (by simp only [List.getElem?_toArray, List.getElem?_cons_zero]; exact rfl) (by kernel_rfl) 12 (by kernel_rfl) (by kernel_rfl) (fun _ _ _ h => h) (by kernel_rfl) (by kernel_rfl) (by kernel_rfl) (by kernel_rfl) (Or.inl ⟨by rfl, fun w hSw => (by go_simp; try with_reducible rfl)⟩) (by with_reducible exact HD.out) ?_
      try simp only [Act.put, List.setIfInBounds_toArray, List.set_cons_zero, List.set_cons_succ]
      refine anyU_take2 (i := 1) (v := .pointer (some ⟨g, 0, none⟩)) (by simp only [List.getElem?_toArray, List.getElem?_cons_succ, List.getElem?_cons_zero]; exact rfl) (by kernel_rfl) 12 (by kernel_rfl) (by kernel_rfl) (fun _ _ _ h => h) (by kernel_rfl) (by kernel_rfl) (by kernel_rfl) (by kernel_rfl) (Or.inl ⟨by rfl, fun w hSw => (by go_simp; try with_reducible rfl)⟩) (by with_reducible exact HD.out) ?_
      try simp only [Act.put, List.setIfInBounds_toArray, List.set_cons_zero, List.set_cons_succ]
      refine anyU_take2 (i := 2) (v := .pointer (some ⟨g, 0, none⟩)) (by simp only [List.getElem?_toArray, List.getElem?_cons_succ, List.getElem?_cons_zero]; exact rfl) (by kernel_rfl) 12 (by kernel_rfl) (by kernel_rfl) (fun _ _ _ h => h) (by kernel_rfl) (by kernel_rfl) (by kernel_rfl) (by kernel_rfl) (Or.inl ⟨by rfl, fun w hSw => (by go_simp; try with_reducible rfl)⟩) (by with_reducible exact HD.out) ?_
      try simp only [Act.put, List.setIfInBounds_toArray, List.set_cons_zero, List.set_cons_succ]
      refine anyU_take2 (i := 3) (v := .pointer (some ⟨g, 0, none⟩)) (by simp only [List.getElem?_toArray, List.getElem?_cons_succ, List.getElem?_cons_zero]; exact rfl) (by kernel_rfl) 12 (by kernel_rfl) (by kernel_rfl) (fun _ _ _ h => h) (by kernel_rfl) (by kernel_rfl) (by kernel_rfl) (by kernel_rfl) (Or.inl ⟨by rfl, fun w hSw => (by go_simp; try with_reducible rfl)⟩) (by with_reducible exact HD.out) ?_
      try simp only [Act.put, List.setIfInBounds_toArray, List.set_cons_zero, List.set_cons_succ]
      refine anyU_take2 (i := 4) (v := .slice (some ⟨gI, 0, none⟩) n a) (by simp only [List.getElem?_toArray, List.getElem?_cons_succ, List.getElem?_cons_zero]; exact rfl) (by kernel_rfl) 12 (by kernel_rfl) (by kernel_rfl) (fun _ _ _ h => h) (by kernel_rfl) (by kernel_rfl) (by kernel_rfl) (by kernel_rfl) (Or.inl ⟨by rfl, fun w hSw => (by obtain ⟨c0, c1, c2⟩ := HGI.out w hSw; go_simp; try with_reducible rfl)⟩) (by with_reducible exact HD.out) ?_
      try simp only [Act.put, List.setIfInBounds_toArray, List.set_cons_zero, List.set_cons_succ]
      refine anyU_take2 (i := 5) (v := .int .i64 (n : Nat)) (by simp only [List.getElem?_toArray, List.getElem?_cons_succ, List.getElem?_cons_zero]; exact rfl) (by kernel_rfl) 12 (by kernel_rfl) (by kernel_rfl) (fun _ _ _ h => h) (by kernel_rfl) (by kernel_rfl) (by kernel_rfl) (by kernel_rfl) (Or.inl ⟨by rfl, fun w hSw => (by go_simp; try with_reducible rfl)⟩) (by with_reducible exact HD.out) ?_
      try simp only [Act.put, List.setIfInBounds_toArray, List.set_cons_zero, List.set_cons_succ]
      refine anyU_take2 (i := 6) (v := .bool true) (by simp only [List.getElem?_toArray, List.getElem?_cons_succ, List.getElem?_cons_zero]; exact rfl) (by kernel_rfl) 12 (by kernel_rfl) (by kernel_rfl) (fun _ _ _ h => h) (by kernel_rfl) (by kernel_rfl) (by kernel_rfl) (by kernel_rfl) (Or.inl ⟨by rfl, fun w hSw => (by go_simp; try with_reducible rfl)⟩) (by with_reducible exact HD.out) ?_
      try simp only [Act.put, List.setIfInBounds_toArray, List.set_cons_zero, List.set_cons_succ]
      refine anyU_take2 (i := 7) (v := .bool true) (by simp only [List.getElem?_toArray, List.getElem?_cons_succ, List.getElem?_cons_zero]; exact rfl) (by kernel_rfl) 12 (by kernel_rfl) (by kernel_rfl) (fun _ _ _ h => h) (by kernel_rfl) (by kernel_rfl) (by kernel_rfl) (by kernel_rfl) (Or.inl ⟨by rfl, fun w hSw => (by go_simp; try with_reducible rfl)⟩) (by with_reducible exact HD.out) ?_
      try simp only [Act.put, List.setIfInBounds_toArray, List.set_cons_zero, List.set_cons_succ]
      refine anyU_take2 (i := 8) (v := .pointer (some ⟨g, 0, none⟩)) (by simp only [List.getElem?_toArray, List.getElem?_cons_succ, List.getElem?_cons_zero]; exact rfl) (by kernel_rfl) 12 (by kernel_rfl) (by kernel_rfl) (fun _ _ _ h => h) (by kernel_rfl) (by kernel_rfl) (by kernel_rfl) (by kernel_rfl) (Or.inl ⟨by rfl, fun w hSw => (by go_simp; try with_reducible rfl)⟩) (by with_reducible exact HD.out) ?_
      try simp only [Act.put, List.setIfInBounds_toArray, List.set_cons_zero, List.set_cons_succ]
      refine anyU_take2 (i := 9) (v := .pointer (some ⟨g, 0, none⟩)) (by simp only [List.getElem?_toArray, List.getElem?_cons_succ, List.getElem?_cons_zero]; exact rfl) (by kernel_rfl) 12 (by kernel_rfl) (by kernel_rfl) (fun _ _ _ h => h) (by kernel_rfl) (by kernel_rfl) (by kernel_rfl) (by kernel_rfl) (Or.inl ⟨by rfl, fun w hSw => (by go_simp; try with_reducible rfl)⟩) (by with_reducible exact HD.out) ?_
      try simp only [Act.put, List.setIfInBounds_toArray, List.set_cons_zero, List.set_cons_succ]
      refine anyU_take2 (i := 10) (v := .pointer (some ⟨g, 0, none⟩)) (by simp only [List.getElem?_toArray, List.getElem?_cons_succ, List.getElem?_cons_zero]; exact rfl) (by kernel_rfl) 12 (by kernel_rfl) (by kernel_rfl) (fun _ _ _ h => h) (by kernel_rfl) (by kernel_rfl) (by kernel_rfl) (by kernel_rfl) (Or.inl ⟨by rfl, fun w hSw => (by go_simp; try with_reducible rfl)⟩) (by with_reducible exact HD.out) ?_
      try simp only [Act.put, List.setIfInBounds_toArray, List.set_cons_zero, List.set_cons_succ]
      refine anyU_take2 (i := 11) (v := .slice (some ⟨gI, 0, none⟩) n a) (by simp only [List.getElem?_toArray, List.getElem?_cons_succ, List.getElem?_cons_zero]; exact rfl) (by kernel_rfl) 12 (by kernel_rfl) (by kernel_rfl) (fun _ _ _ h => h) (by kernel_rfl) (by kernel_rfl) (by kernel_rfl) (by kernel_rfl) (Or.inl ⟨by rfl, fun w hSw => (by obtain ⟨c0, c1, c2⟩ := HGI.out w hSw; go_simp; try with_reducible rfl)⟩) (by with_reducible exact HD.out) ?_
      try simp only [Act.put, List.setIfInBounds_toArray, List.set_cons_zero, List.set_cons_succ]
      refine anyU_take2 (i := 12) (v := .int .i64 (j : Nat)) (by simp only [List.getElem?_toArray, List.getElem?_cons_succ, List.getElem?_cons_zero]; exact rfl) (by kernel_rfl) 12 (by kernel_rfl) (by kernel_rfl) (fun _ _ _ h => h) (by kernel_rfl) (by kernel_rfl) (by kernel_rfl) (by kernel_rfl) (Or.inl ⟨by rfl, fun w hSw => (by go_simp; try with_reducible rfl)⟩) (by with_reducible exact HD.out) ?_
      try simp only [Act.put, List.setIfInBounds_toArray, List.set_cons_zero, List.set_cons_succ]
      refine anyU_take2 (i := 13) (v := .pointer (some ⟨gI, j * 2, none⟩)) (by simp only [List.getElem?_toArray, List.getElem?_cons_succ, List.getElem?_cons_zero]; exact rfl) (by kernel_rfl) 12 (by kernel_rfl) (by kernel_rfl) (fun _ _ _ h => h) (by kernel_rfl) (by kernel_rfl) (by kernel_rfl) (by kernel_rfl) (Or.inl ⟨by rfl, fun w hSw => (by go_simp; try with_reducible rfl)⟩) (by with_reducible exact HD.out) ?_
      try simp only [Act.put, List.setIfInBounds_toArray, List.set_cons_zero, List.set_cons_succ]
      refine anyU_take2 (i := 14) (v := .agg #[.int .i64 e.i.1, .int .i64 e.i.2]) (by simp only [List.getElem?_toArray, List.getElem?_cons_succ, List.getElem?_cons_zero]; exact rfl) (by kernel_rfl) 12 (by kernel_rfl) (by kernel_rfl) (fun _ _ _ h => h) (by kernel_rfl) (by kernel_rfl) (by kernel_rfl) (by kernel_rfl) (Or.inl ⟨by rfl, fun w hSw => (by obtain ⟨c0, c1, c2⟩ := HGI.out w hSw; go_simp; try with_reducible rfl)⟩) (by with_reducible exact HD.out) ?_
      try simp only [Act.put, List.setIfInBounds_toArray, List.set_cons_zero, List.set_cons_succ]
      refine anyU_take2 (i := 15) (v := .agg #[.int .i64 i1, .int .i64 i2]) (by simp only [List.getElem?_toArray, List.getElem?_cons_succ, List.getElem?_cons_zero]; exact rfl) (by kernel_rfl) 12 (by kernel_rfl) (by kernel_rfl) (fun _ _ _ h => h) (by kernel_rfl) (by kernel_rfl) (by kernel_rfl) (by kernel_rfl) (Or.inl ⟨by rfl, fun w hSw => (by have c0 := (HI.out.below hSw HI.out.lt).cell 0; have c1 := (HI.out.below hSw HI.out.lt).cell 1; go_simp; try with_reducible rfl)⟩) (by with_reducible exact HD.out) ?_
      try simp only [Act.put, List.setIfInBounds_toArray, List.set_cons_zero, List.set_cons_succ]
      refine anyU_one (i := 16) (by kernel_rfl) (by simp only [List.getElem?_toArray, List.getElem?_cons_succ, List.getElem?_cons_zero]; exact rfl) (fun K hK => ?_)
      try go_simp
      refine (HCL.out _).mono ?_
      rintro x w2 ⟨rfl, hb2⟩
      have HD := hide (show (fun w' : World => Below wr.heap.size wr w') w2 from kept_trans HD.out hb2)
      clear hb2
      refine hK.out _ _ (fun _ _ => HD.out) ?_
      clear hK K
      skip
      refine anyU_one (i := 17) (by kernel_rfl) (by simp only [List.getElem?_toArray, List.getElem?_cons_succ, List.getElem?_cons_zero]; exact rfl) (fun K hK => ?_)
      try go_simp
      refine hK.out _ _ (fun e _ => absurd rfl e) ?_
      clear hK K
      try simp only [Act.put]
      refine anyU_done (by kernel_rfl) ?_
      refine NoPanic.normal ?_
      try simp only [Act.put]
      have heq : ∀ w : World, (binOp .eql 28 (.agg #[.int .i64 e.i.1, .int .i64 e.i.2]) (.agg #[.int .i64 i1, .int .i64 i2])).run Try.prog w = .ok (.bool (sameP e.i (i1, i2))) w := fun w => eql_inst _ _ _ _ w
      rw [← HY.out] at heq
      have HEQ := hide heq
      clear heq HY
      have HB := hide (kept_trans (kept_trans HB.out LO.out) HD.out)
      replace HGI := hide (fun (w : World) (h : Below w2.heap.size w2 w) => HGI.out w (kept_trans HD.out h))
      replace HI := hide (HI.out.below HD.out HI.out.lt)
      clear HO LO HD HCL
      go_upto_region 4 with (fail)
      refine wp_region_noPanic ?_
      refine wp_region_U 20 (fun w' : World => Below w2.heap.size w2 w') (by kernel_rfl) ?_
      have HD := hide (show (fun w' : World => Below w2.heap.size w2 w') w2.drew from kept_drewN (kept_refl _) 1)
      generalize w2.drew = wd at HD ⊢
      refine anyU_take2 (i := 0) (v := .int .i64 (j : Nat)) (by simp only [List.getElem?_toArray, List.getElem?_cons_zero]; exact rfl) (by kernel_rfl) 12 (by kernel_rfl) (by kernel_rfl) (fun _ _ _ h => h) (by kernel_rfl) (by kernel_rfl) (by kernel_rfl) (by kernel_rfl) (Or.inl ⟨by rfl, fun w hSw => (by go_simp; try with_reducible rfl)⟩) (by with_reducible exact HD.out) ?_
      try simp only [Act.put, List.setIfInBounds_toArray, List.set_cons_zero, List.set_cons_succ]
      refine anyU_take2 (i := 1) (v := .int .i64 (j : Nat)) (by simp only [List.getElem?_toArray, List.getElem?_cons_succ, List.getElem?_cons_zero]; exact rfl) (by kernel_rfl) 12 (by kernel_rfl) (by kernel_rfl) (fun _ _ _ h => h) (by kernel_rfl) (by kernel_rfl) (by kernel_rfl) (by kernel_rfl) (Or.inl ⟨by rfl, fun w hSw => (by go_simp; try with_reducible rfl)⟩) (by with_reducible exact HD.out) ?_
      try simp only [Act.put, List.setIfInBounds_toArray, List.set_cons_zero, List.set_cons_succ]
      refine anyU_take2 (i := 2) (v := .pointer (some ⟨g, 0, none⟩)) (by simp only [List.getElem?_toArray, List.getElem?_cons_succ, List.getElem?_cons_zero]; exact rfl) (by kernel_rfl) 12 (by kernel_rfl) (by kernel_rfl) (fun _ _ _ h => h) (by kernel_rfl) (by kernel_rfl) (by kernel_rfl) (by kernel_rfl) (Or.inl ⟨by rfl, fun w hSw => (by go_simp; try with_reducible rfl)⟩) (by with_reducible exact HD.out) ?_
      try simp only [Act.put, List.setIfInBounds_toArray, List.set_cons_zero, List.set_cons_succ]
      refine anyU_take2 (i := 3) (v := .pointer (some ⟨g, 0, none⟩)) (by simp only [List.getElem?_toArray, List.getElem?_cons_succ, List.getElem?_cons_zero]; exact rfl) (by kernel_rfl) 12 (by kernel_rfl) (by kernel_rfl) (fun _ _ _ h => h) (by kernel_rfl) (by kernel_rfl) (by kernel_rfl) (by kernel_rfl) (Or.inl ⟨by rfl, fun w hSw => (by go_simp; try with_reducible rfl)⟩) (by with_reducible exact HD.out) ?_
      try simp only [Act.put, List.setIfInBounds_toArray, List.set_cons_zero, List.set_cons_succ]
      refine anyU_take2 (i := 4) (v := .pointer (some ⟨g, 0, none⟩)) (by simp only [List.getElem?_toArray, List.getElem?_cons_succ, List.getElem?_cons_zero]; exact rfl) (by kernel_rfl) 12 (by kernel_rfl) (by kernel_rfl) (fun _ _ _ h => h) (by kernel_rfl) (by kernel_rfl) (by kernel_rfl) (by kernel_rfl) (Or.inl ⟨by rfl, fun w hSw => (by go_simp; try with_reducible rfl)⟩) (by with_reducible exact HD.out) ?_
      try simp only [Act.put, List.setIfInBounds_toArray, List.set_cons_zero, List.set_cons_succ]
      refine anyU_take2 (i := 5) (v := .slice (some ⟨gI, 0, none⟩) n a) (by simp only [List.getElem?_toArray, List.getElem?_cons_succ, List.getElem?_cons_zero]; exact rfl) (by kernel_rfl) 12 (by kernel_rfl) (by kernel_rfl) (fun _ _ _ h => h) (by kernel_rfl) (by kernel_rfl) (by kernel_rfl) (by kernel_rfl) (Or.inl ⟨by rfl, fun w hSw => (by obtain ⟨c0, c1, c2⟩ := HGI.out w hSw; go_simp; try with_reducible rfl)⟩) (by with_reducible exact HD.out) ?_
      try simp only [Act.put, List.setIfInBounds_toArray, List.set_cons_zero, List.set_cons_succ]
      refine anyU_take2 (i := 6) (v := .int .i64 (n : Nat)) (by simp only [List.getElem?_toArray, List.getElem?_cons_succ, List.getElem?_cons_zero]; exact rfl) (by kernel_rfl) 12 (by kernel_rfl) (by kernel_rfl) (fun _ _ _ h => h) (by kernel_rfl) (by kernel_rfl) (by kernel_rfl) (by kernel_rfl) (Or.inl ⟨by rfl, fun w hSw => (by go_simp; try with_reducible rfl)⟩) (by with_reducible exact HD.out) ?_
      try simp only [Act.put, List.setIfInBounds_toArray, List.set_cons_zero, List.set_cons_succ]
      refine anyU_take2 (i := 7) (v := .bool true) (by simp only [List.getElem?_toArray, List.getElem?_cons_succ, List.getElem?_cons_zero]; exact rfl) (by kernel_rfl) 12 (by kernel_rfl) (by kernel_rfl) (fun _ _ _ h => h) (by kernel_rfl) (by kernel_rfl) (by kernel_rfl) (by kernel_rfl) (Or.inl ⟨by rfl, fun w hSw => (by go_simp; try with_reducible rfl)⟩) (by with_reducible exact HD.out) ?_
      try simp only [Act.put, List.setIfInBounds_toArray, List.set_cons_zero, List.set_cons_succ]
      refine anyU_take2 (i := 8) (v := .bool true) (by simp only [List.getElem?_toArray, List.getElem?_cons_succ, List.getElem?_cons_zero]; exact rfl) (by kernel_rfl) 12 (by kernel_rfl) (by kernel_rfl) (fun _ _ _ h => h) (by kernel_rfl) (by kernel_rfl) (by kernel_rfl) (by kernel_rfl) (Or.inl ⟨by rfl, fun w hSw => (by go_simp; try with_reducible rfl)⟩) (by with_reducible exact HD.out) ?_
      try simp only [Act.put, List.setIfInBounds_toArray, List.set_cons_zero, List.set_cons_succ]
      refine anyU_take2 (i := 9) (v := .pointer (some ⟨g, 0, none⟩)) (by simp only [List.getElem?_toArray, List.getElem?_cons_succ, List.getElem?_cons_zero]; exact rfl) (by kernel_rfl) 12 (by kernel_rfl) (by kernel_rfl) (fun _ _ _ h => h) (by kernel_rfl) (by kernel_rfl) (by kernel_rfl) (by kernel_rfl) (Or.inl ⟨by rfl, fun w hSw => (by go_simp; try with_reducible rfl)⟩) (by with_reducible exact HD.out) ?_
      try simp only [Act.put, List.setIfInBounds_toArray, List.set_cons_zero, List.set_cons_succ]
      refine anyU_take2 (i := 10) (v := .pointer (some ⟨g, 0, none⟩)) (by simp only [List.getElem?_toArray, List.getElem?_cons_succ, List.getElem?_cons_zero]; exact rfl) (by kernel_rfl) 12 (by kernel_rfl) (by kernel_rfl) (fun _ _ _ h => h) (by kernel_rfl) (by kernel_rfl) (by kernel_rfl) (by kernel_rfl) (Or.inl ⟨by rfl, fun w hSw => (by go_simp; try with_reducible rfl)⟩) (by with_reducible exact HD.out) ?_
      try simp only [Act.put, List.setIfInBounds_toArray, List.set_cons_zero, List.set_cons_succ]
      refine anyU_take2 (i := 11) (v := .pointer (some ⟨g, 0, none⟩)) (by simp only [List.getElem?_toArray, List.getElem?_cons_succ, List.getElem?_cons_zero]; exact rfl) (by kernel_rfl) 12 (by kernel_rfl) (by kernel_rfl) (fun _ _ _ h => h) (by kernel_rfl) (by kernel_rfl) (by kernel_rfl) (by kernel_rfl) (Or.inl ⟨by rfl, fun w hSw => (by go_simp; try with_reducible rfl)⟩) (by with_reducible exact HD.out) ?_
      try simp only [Act.put, List.setIfInBounds_toArray, List.set_cons_zero, List.set_cons_succ]
      refine anyU_take2 (i := 12) (v := .slice (some ⟨gI, 0, none⟩) n a) (by simp only [List.getElem?_toArray, List.getElem?_cons_succ, List.getElem?_cons_zero]; exact rfl) (by kernel_rfl) 12 (by kernel_rfl) (by kernel_rfl) (fun _ _ _ h => h) (by kernel_rfl) (by kernel_rfl) (by kernel_rfl) (by kernel_rfl) (Or.inl ⟨by rfl, fun w hSw => (by obtain ⟨c0, c1, c2⟩ := HGI.out w hSw; go_simp; try with_reducible rfl)⟩) (by with_reducible exact HD.out) ?_
      try simp only [Act.put, List.setIfInBounds_toArray, List.set_cons_zero, List.set_cons_succ]
      refine anyU_take2 (i := 13) (v := .int .i64 (j : Nat)) (by simp only [List.getElem?_toArray, List.getElem?_cons_succ, List.getElem?_cons_zero]; exact rfl) (by kernel_rfl) 12 (by kernel_rfl) (by kernel_rfl) (fun _ _ _ h => h) (by kernel_rfl) (by kernel_rfl) (by kernel_rfl) (by kernel_rfl) (Or.inl ⟨by rfl, fun w hSw => (by go_simp; try with_reducible rfl)⟩) (by with_reducible exact HD.out) ?_
      try simp only [Act.put, List.setIfInBounds_toArray, List.set_cons_zero, List.set_cons_succ]
      refine anyU_take2 (i := 14) (v := .pointer (some ⟨gI, j * 2, none⟩)) (by simp only [List.getElem?_toArray, List.getElem?_cons_succ, List.getElem?_cons_zero]; exact rfl) (by kernel_rfl) 12 (by kernel_rfl) (by kernel_rfl) (fun _ _ _ h => h) (by kernel_rfl) (by kernel_rfl) (by kernel_rfl) (by kernel_rfl) (Or.inl ⟨by rfl, fun w hSw => (by go_simp; try with_reducible rfl)⟩) (by with_reducible exact HD.out) ?_
      try simp only [Act.put, List.setIfInBounds_toArray, List.set_cons_zero, List.set_cons_succ]
      refine anyU_take2 (i := 15) (v := .agg #[.int .i64 e.i.1, .int .i64 e.i.2]) (by simp only [List.getElem?_toArray, List.getElem?_cons_succ, List.getElem?_cons_zero]; exact rfl) (by kernel_rfl) 12 (by kernel_rfl) (by kernel_rfl) (fun _ _ _ h => h) (by kernel_rfl) (by kernel_rfl) (by kernel_rfl) (by kernel_rfl) (Or.inl ⟨by rfl, fun w hSw => (by obtain ⟨c0, c1, c2⟩ := HGI.out w hSw; go_simp; try with_reducible rfl)⟩) (by with_reducible exact HD.out) ?_
      try simp only [Act.put, List.setIfInBounds_toArray, List.set_cons_zero, List.set_cons_succ]
      refine anyU_take2 (i := 16) (v := .agg #[.int .i64 i1, .int .i64 i2]) (by simp only [List.getElem?_toArray, List.getElem?_cons_succ, List.getElem?_cons_zero]; exact rfl) (by kernel_rfl) 12 (by kernel_rfl) (by kernel_rfl) (fun _ _ _ h => h) (by kernel_rfl) (by kernel_rfl) (by kernel_rfl) (by kernel_rfl) (Or.inl ⟨by rfl, fun w hSw => (by have c0 := (HI.out.below hSw HI.out.lt).cell 0; have c1 := (HI.out.below hSw HI.out.lt).cell 1; go_simp; try with_reducible rfl)⟩) (by with_reducible exact HD.out) ?_
      try simp only [Act.put, List.setIfInBounds_toArray, List.set_cons_zero, List.set_cons_succ]
      have heq := HEQ.out
      refine anyU_take2 (i := 17) (v := .bool y) (by simp only [List.getElem?_toArray, List.getElem?_cons_succ, List.getElem?_cons_zero]; exact rfl) (by kernel_rfl) 12 (by kernel_rfl) (by kernel_rfl) (fun _ _ _ h => h) (by kernel_rfl) (by kernel_rfl) (by kernel_rfl) (by kernel_rfl) (Or.inl ⟨by rfl, fun w hSw => (by go_simp; try with_reducible rfl)⟩) (by with_reducible exact HD.out) ?_
      try simp only [Act.put, List.setIfInBounds_toArray, List.set_cons_zero, List.set_cons_succ]
      clear heq
      refine anyU_take2 (i := 18) (v := .bool y) (by simp only [List.getElem?_toArray, List.getElem?_cons_succ, List.getElem?_cons_zero]; exact rfl) (by kernel_rfl) 12 (by kernel_rfl) (by kernel_rfl) (fun _ _ _ h => h) (by kernel_rfl) (by kernel_rfl) (by kernel_rfl) (by kernel_rfl) (Or.inl ⟨by rfl, fun w hSw => (by go_simp; try with_reducible rfl)⟩) (by with_reducible exact HD.out) ?_
      try simp only [Act.put, List.setIfInBounds_toArray, List.set_cons_zero, List.set_cons_succ]
      refine anyU_take2 (i := 19) (v := .int .i64 (j : Nat)) (by simp only [List.getElem?_toArray, List.getElem?_cons_succ, List.getElem?_cons_zero]; exact rfl) (by kernel_rfl) 12 (by kernel_rfl) (by kernel_rfl) (fun _ _ _ h => h) (by kernel_rfl) (by kernel_rfl) (by kernel_rfl) (by kernel_rfl) (Or.inl ⟨by rfl, fun w hSw => (by go_simp; try with_reducible rfl)⟩) (by with_reducible exact HD.out) ?_
      try simp only [Act.put, List.setIfInBounds_toArray, List.set_cons_zero, List.set_cons_succ]
      refine anyU_one (i := 20) (by kernel_rfl) (by simp only [List.getElem?_toArray, List.getElem?_cons_succ, List.getElem?_cons_zero]; exact rfl) (fun K hK => ?_)
      try go_simp
      refine hK.out _ _ (fun e _ => absurd rfl e) ?_
      clear hK K
      try simp only [Act.put]
      refine anyU_done (by kernel_rfl) ?_
      refine NoPanic.normal ?_
      try simp only [Act.put]
      go_wp2
      go_ret2
      exact ⟨rfl, kept_trans HB.out HD.out⟩
    · have hlt : j < q := by rcases Nat.lt_or_ge j q with h1 | h1; · exact h1
                             · exact absurd (HJ2.out (by omega)).1 (by simp)
      clear HJ HJ2 HP HQ HM HE
      go_upto_region 2 with (fail)
      refine wp_region_noPanic ?_
      refine wp_region_U 17 (fun w' : World => Below wr.heap.size wr w') (by kernel_rfl) ?_
      have HD := hide (show (fun w' : World => Below wr.heap.size wr w') wr.drew from kept_drewN (kept_refl _) 1)
      generalize wr.drew = wd at HD ⊢
      refine anyU_take2 (i := 0) (v := .int .i64 (j : Nat)) (by simp only [List.getElem?_toArray, List.getElem?_cons_zero]; exact rfl) (by kernel_rfl) 12 (by kernel_rfl) (by kernel_rfl) (fun _ _ _ h => h) (by kernel_rfl) (by kernel_rfl) (by kernel_rfl) (by kernel_rfl) (Or.inl ⟨by rfl, fun w hSw => (by go_simp; try with_reducible rfl)⟩) (by with_reducible exact HD.out) ?_
      try simp only [Act.put, List.setIfInBounds_toArray, List.set_cons_zero, List.set_cons_succ]
      refine anyU_take2 (i := 1) (v := .pointer (some ⟨g, 0, none⟩)) (by simp only [List.getElem?_toArray, List.getElem?_cons_succ, List.getElem?_cons_zero]; exact rfl) (by kernel_rfl) 12 (by kernel_rfl) (by kernel_rfl) (fun _ _ _ h => h) (by kernel_rfl) (by kernel_rfl) (by kernel_rfl) (by kernel_rfl) (Or.inl ⟨by rfl, fun w hSw => (by go_simp; try with_reducible rfl)⟩) (by with_reducible exact HD.out) ?_
      try simp only [Act.put, List.setIfInBounds_toArray, List.set_cons_zero, List.set_cons_succ]
      refine anyU_take2 (i := 2) (v := .pointer (some ⟨g, 0, none⟩)) (by simp only [List.getElem?_toArray, List.getElem?_cons_succ, List.getElem?_cons_zero]; exact rfl) (by kernel_rfl) 12 (by kernel_rfl) (by kernel_rfl) (fun _ _ _ h => h) (by kernel_rfl) (by kernel_rfl) (by kernel_rfl) (by kernel_rfl) (Or.inl ⟨by rfl, fun w hSw => (by go_simp; try with_reducible rfl)⟩) (by with_reducible exact HD.out) ?_
      try simp only [Act.put, List.setIfInBounds_toArray, List.set_cons_zero, List.set_cons_succ]
      refine anyU_take2 (i := 3) (v := .pointer (some ⟨g, 0, none⟩)) (by simp only [List.getElem?_toArray, List.getElem?_cons_succ, List.getElem?_cons_zero]; exact rfl) (by kernel_rfl) 12 (by kernel_rfl) (by kernel_rfl) (fun _ _ _ h => h) (by kernel_rfl) (by kernel_rfl) (by kernel_rfl) (by kernel_rfl) (Or.inl ⟨by rfl, fun w hSw => (by go_simp; try with_reducible rfl)⟩) (by with_reducible exact HD.out) ?_
      try simp only [Act.put, List.setIfInBounds_toArray, List.set_cons_zero, List.set_cons_succ]
      refine anyU_take2 (i := 4) (v := .slice (some ⟨gI, 0, none⟩) n a) (by simp only [List.getElem?_toArray, List.getElem?_cons_succ, List.getElem?_cons_zero]; exact rfl) (by kernel_rfl) 12 (by kernel_rfl) (by kernel_rfl) (fun _ _ _ h => h) (by kernel_rfl) (by kernel_rfl) (by kernel_rfl) (by kernel_rfl) (Or.inl ⟨by rfl, fun w hSw => (by obtain ⟨c0, c1, c2⟩ := HGI.out w hSw; go_simp; try with_reducible rfl)⟩) (by with_reducible exact HD.out) ?_
      try simp only [Act.put, List.setIfInBounds_toArray, List.set_cons_zero, List.set_cons_succ]
      refine anyU_take2 (i := 5) (v := .int .i64 (n : Nat)) (by simp only [List.getElem?_toArray, List.getElem?_cons_succ, List.getElem?_cons_zero]; exact rfl) (by kernel_rfl) 12 (by kernel_rfl) (by kernel_rfl) (fun _ _ _ h => h) (by kernel_rfl) (by kernel_rfl) (by kernel_rfl) (by kernel_rfl) (Or.inl ⟨by rfl, fun w hSw => (by go_simp; try with_reducible rfl)⟩) (by with_reducible exact HD.out) ?_
      try simp only [Act.put, List.setIfInBounds_toArray, List.set_cons_zero, List.set_cons_succ]
      refine anyU_take2 (i := 6) (v := .bool true) (by simp only [List.getElem?_toArray, List.getElem?_cons_succ, List.getElem?_cons_zero]; exact rfl) (by kernel_rfl) 12 (by kernel_rfl) (by kernel_rfl) (fun _ _ _ h => h) (by kernel_rfl) (by kernel_rfl) (by kernel_rfl) (by kernel_rfl) (Or.inl ⟨by rfl, fun w hSw => (by go_simp; try with_reducible rfl)⟩) (by with_reducible exact HD.out) ?_
      try simp only [Act.put, List.setIfInBounds_toArray, List.set_cons_zero, List.set_cons_succ]
      refine anyU_take2 (i := 7) (v := .bool true) (by simp only [List.getElem?_toArray, List.getElem?_cons_succ, List.getElem?_cons_zero]; exact rfl) (by kernel_rfl) 12 (by kernel_rfl) (by kernel_rfl) (fun _ _ _ h => h) (by kernel_rfl) (by kernel_rfl) (by kernel_rfl) (by kernel_rfl) (Or.inl ⟨by rfl, fun w hSw => (by go_simp; try with_reducible rfl)⟩) (by with_reducible exact HD.out) ?_
      try simp only [Act.put, List.setIfInBounds_toArray, List.set_cons_zero, List.set_cons_succ]
      refine anyU_take2 (i := 8) (v := .pointer (some ⟨g, 0, none⟩)) (by simp only [List.getElem?_toArray, List.getElem?_cons_succ, List.getElem?_cons_zero]; exact rfl) (by kernel_rfl) 12 (by kernel_rfl) (by kernel_rfl) (fun _ _ _ h => h) (by kernel_rfl) (by kernel_rfl) (by kernel_rfl) (by kernel_rfl) (Or.inl ⟨by rfl, fun w hSw => (by go_simp; try with_reducible rfl)⟩) (by with_reducible exact HD.out) ?_
      try simp only [Act.put, List.setIfInBounds_toArray, List.set_cons_zero, List.set_cons_succ]
      refine anyU_take2 (i := 9) (v := .pointer (some ⟨g, 0, none⟩)) (by simp only [List.getElem?_toArray, List.getElem?_cons_succ, List.getElem?_cons_zero]; exact rfl) (by kernel_rfl) 12 (by kernel_rfl) (by kernel_rfl) (fun _ _ _ h => h) (by kernel_rfl) (by kernel_rfl) (by kernel_rfl) (by kernel_rfl) (Or.inl ⟨by rfl, fun w hSw => (by go_simp; try with_reducible rfl)⟩) (by with_reducible exact HD.out) ?_
      try simp only [Act.put, List.setIfInBounds_toArray, List.set_cons_zero, List.set_cons_succ]
      refine anyU_take2 (i := 10) (v := .pointer (some ⟨g, 0, none⟩)) (by simp only [List.getElem?_toArray, List.getElem?_cons_succ, List.getElem?_cons_zero]; exact rfl) (by kernel_rfl) 12 (by kernel_rfl) (by kernel_rfl) (fun _ _ _ h => h) (by kernel_rfl) (by kernel_rfl) (by kernel_rfl) (by kernel_rfl) (Or.inl ⟨by rfl, fun w hSw => (by go_simp; try with_reducible rfl)⟩) (by with_reducible exact HD.out) ?_
      try simp only [Act.put, List.setIfInBounds_toArray, List.set_cons_zero, List.set_cons_succ]
      refine anyU_take2 (i := 11) (v := .slice (some ⟨gI, 0, none⟩) n a) (by simp only [List.getElem?_toArray, List.getElem?_cons_succ, List.getElem?_cons_zero]; exact rfl) (by kernel_rfl) 12 (by kernel_rfl) (by kernel_rfl) (fun _ _ _ h => h) (by kernel_rfl) (by kernel_rfl) (by kernel_rfl) (by kernel_rfl) (Or.inl ⟨by rfl, fun w hSw => (by obtain ⟨c0, c1, c2⟩ := HGI.out w hSw; go_simp; try with_reducible rfl)⟩) (by with_reducible exact HD.out) ?_
      try simp only [Act.put, List.setIfInBounds_toArray, List.set_cons_zero, List.set_cons_succ]
      refine anyU_take2 (i := 12) (v := .int .i64 (j : Nat)) (by simp only [List.getElem?_toArray, List.getElem?_cons_succ, List.getElem?_cons_zero]; exact rfl) (by kernel_rfl) 12 (by kernel_rfl) (by kernel_rfl) (fun _ _ _ h => h) (by kernel_rfl) (by kernel_rfl) (by kernel_rfl) (by kernel_rfl) (Or.inl ⟨by rfl, fun w hSw => (by go_simp; try with_reducible rfl)⟩) (by with_reducible exact HD.out) ?_
      try simp only [Act.put, List.setIfInBounds_toArray, List.set_cons_zero, List.set_cons_succ]
      refine anyU_take2 (i := 13) (v := .pointer (some ⟨gI, j * 2, none⟩)) (by simp only [List.getElem?_toArray, List.getElem?_cons_succ, List.getElem?_cons_zero]; exact rfl) (by kernel_rfl) 12 (by kernel_rfl) (by kernel_rfl) (fun _ _ _ h => h) (by kernel_rfl) (by kernel_rfl) (by kernel_rfl) (by kernel_rfl) (Or.inl ⟨by rfl, fun w hSw => (by go_simp; try with_reducible rfl)⟩) (by with_reducible exact HD.out) ?_
      try simp only [Act.put, List.setIfInBounds_toArray, List.set_cons_zero, List.set_cons_succ]
      refine anyU_take2 (i := 14) (v := .agg #[.int .i64 e.i.1, .int .i64 e.i.2]) (by simp only [List.getElem?_toArray, List.getElem?_cons_succ, List.getElem?_cons_zero]; exact rfl) (by kernel_rfl) 12 (by kernel_rfl) (by kernel_rfl) (fun _ _ _ h => h) (by kernel_rfl) (by kernel_rfl) (by kernel_rfl) (by kernel_rfl) (Or.inl ⟨by rfl, fun w hSw => (by obtain ⟨c0, c1, c2⟩ := HGI.out w hSw; go_simp; try with_reducible rfl)⟩) (by with_reducible exact HD.out) ?_
      try simp only [Act.put, List.setIfInBounds_toArray, List.set_cons_zero, List.set_cons_succ]
      refine anyU_take2 (i := 15) (v := .agg #[.int .i64 i1, .int .i64 i2]) (by simp only [List.getElem?_toArray, List.getElem?_cons_succ, List.getElem?_cons_zero]; exact rfl) (by kernel_rfl) 12 (by kernel_rfl) (by kernel_rfl) (fun _ _ _ h => h) (by kernel_rfl) (by kernel_rfl) (by kernel_rfl) (by kernel_rfl) (Or.inl ⟨by rfl, fun w hSw => (by have c0 := (HI.out.below hSw HI.out.lt).cell 0; have c1 := (HI.out.below hSw HI.out.lt).cell 1; go_simp; try with_reducible rfl)⟩) (by with_reducible exact HD.out) ?_
      try simp only [Act.put, List.setIfInBounds_toArray, List.set_cons_zero, List.set_cons_succ]
      refine anyU_one (i := 16) (by kernel_rfl) (by simp only [List.getElem?_toArray, List.getElem?_cons_succ, List.getElem?_cons_zero]; exact rfl) (fun K hK => ?_)
      try go_simp
      refine (HCL.out _).mono ?_
      rintro x w2 ⟨rfl, hb2⟩
      have HD := hide (show (fun w' : World => Below wr.heap.size wr w') w2 from kept_trans HD.out hb2)
      clear hb2
      refine hK.out _ _ (fun _ _ => HD.out) ?_
      clear hK K
      skip
      refine anyU_one (i := 17) (by kernel_rfl) (by simp only [List.getElem?_toArray, List.getElem?_cons_succ, List.getElem?_cons_zero]; exact rfl) (fun K hK => ?_)
      try go_simp
      refine hK.out _ _ (fun e _ => absurd rfl e) ?_
      clear hK K
      try simp only [Act.put]
      refine anyU_done (by kernel_rfl) ?_
      refine NoPanic.normal ?_
      try simp only [Act.put]
      have LO2 := hide (kept_trans LO.out HD.out)
      clear HO HI HGI HD LO
      go_wp2
      go_roundw
      case rel => exact ⟨j + 1, by omega, by go_num, LO2⟩
      case measure => simp [intOf]; omega
  · obtain rfl : j = n := by omega
    obtain rfl : j = q := by omega
    have HY := hide (HE.out (by rw [List.getElem?_eq_none]; rw [HN.out]; exact Nat.le_refl _))
    clear HP HQ HM HE
    have HGI := hide (fun (w : World) (h : Below wr.heap.size wr w) => (show w.cell? ⟨g, 0, none⟩ = some (.slice A j a) from (HO.out.below h).c0))
    have hb0 := kept_trans HB.out LO.out
    have HB2 := hide hb0
    obtain rfl := HY.out
    clear HO LO HB hb0 HY
    go_upto_region 2 with (fail)
    refine wp_region_noPanic ?_
    refine wp_region_U 17 (fun w' : World => Below wr.heap.size wr w') (by kernel_rfl) ?_
    have HD := hide (show (fun w' : World => Below wr.heap.size wr w') wr.drew from kept_drewN (kept_refl _) 1)
    generalize wr.drew = wd at HD ⊢
    refine anyU_take2 (i := 0) (v := .int .i64 (j : Nat)) (by simp only [List.getElem?_toArray, List.getElem?_cons_zero]; exact rfl) (by kernel_rfl) 12 (by kernel_rfl) (by kernel_rfl) (fun _ _ _ h => h) (by kernel_rfl) (by kernel_rfl) (by kernel_rfl) (by kernel_rfl) (Or.inl ⟨by rfl, fun w hSw => (by go_simp; try with_reducible rfl)⟩) (by with_reducible exact HD.out) ?_
    try simp only [Act.put, List.setIfInBounds_toArray, List.set_cons_zero, List.set_cons_succ]
    refine anyU_take2 (i := 1) (v := .pointer (some ⟨g, 0, none⟩)) (by simp only [List.getElem?_toArray, List.getElem?_cons_succ, List.getElem?_cons_zero]; exact rfl) (by kernel_rfl) 12 (by kernel_rfl) (by kernel_rfl) (fun _ _ _ h => h) (by kernel_rfl) (by kernel_rfl) (by kernel_rfl) (by kernel_rfl) (Or.inl ⟨by rfl, fun w hSw => (by go_simp; try with_reducible rfl)⟩) (by with_reducible exact HD.out) ?_
    try simp only [Act.put, List.setIfInBounds_toArray, List.set_cons_zero, List.set_cons_succ]
    refine anyU_take2 (i := 2) (v := .pointer (some ⟨g, 0, none⟩)) (by simp only [List.getElem?_toArray, List.getElem?_cons_succ, List.getElem?_cons_zero]; exact rfl) (by kernel_rfl) 12 (by kernel_rfl) (by kernel_rfl) (fun _ _ _ h => h) (by kernel_rfl) (by kernel_rfl) (by kernel_rfl) (by kernel_rfl) (Or.inl ⟨by rfl, fun w hSw => (by go_simp; try with_reducible rfl)⟩) (by with_reducible exact HD.out) ?_
    try simp only [Act.put, List.setIfInBounds_toArray, List.set_cons_zero, List.set_cons_succ]
    refine anyU_take2 (i := 3) (v := .pointer (some ⟨g, 0, none⟩)) (by simp only [List.getElem?_toArray, List.getElem?_cons_succ, List.getElem?_cons_zero]; exact rfl) (by kernel_rfl) 12 (by kernel_rfl) (by kernel_rfl) (fun _ _ _ h => h) (by kernel_rfl) (by kernel_rfl) (by kernel_rfl) (by kernel_rfl) (Or.inl ⟨by rfl, fun w hSw => (by go_simp; try with_reducible rfl)⟩) (by with_reducible exact HD.out) ?_
    try simp only [Act.put, List.setIfInBounds_toArray, List.set_cons_zero, List.set_cons_succ]
    refine anyU_take2 (i := 4) (v := .slice A j a) (by simp only [List.getElem?_toArray, List.getElem?_cons_succ, List.getElem?_cons_zero]; exact rfl) (by kernel_rfl) 12 (by kernel_rfl) (by kernel_rfl) (fun _ _ _ h => h) (by kernel_rfl) (by kernel_rfl) (by kernel_rfl) (by kernel_rfl) (Or.inl ⟨by rfl, fun w hSw => (by have c0 := HGI.out w hSw; go_simp; try with_reducible rfl)⟩) (by with_reducible exact HD.out) ?_
    try simp only [Act.put, List.setIfInBounds_toArray, List.set_cons_zero, List.set_cons_succ]
    refine anyU_take2 (i := 5) (v := .int .i64 (j : Nat)) (by simp only [List.getElem?_toArray, List.getElem?_cons_succ, List.getElem?_cons_zero]; exact rfl) (by kernel_rfl) 12 (by kernel_rfl) (by kernel_rfl) (fun _ _ _ h => h) (by kernel_rfl) (by kernel_rfl) (by kernel_rfl) (by kernel_rfl) (Or.inl ⟨by rfl, fun w hSw => (by go_simp; try with_reducible rfl)⟩) (by with_reducible exact HD.out) ?_
    try simp only [Act.put, List.setIfInBounds_toArray, List.set_cons_zero, List.set_cons_succ]
    refine anyU_take2 (i := 6) (v := .bool false) (by simp only [List.getElem?_toArray, List.getElem?_cons_succ, List.getElem?_cons_zero]; exact rfl) (by kernel_rfl) 12 (by kernel_rfl) (by kernel_rfl) (fun _ _ _ h => h) (by kernel_rfl) (by kernel_rfl) (by kernel_rfl) (by kernel_rfl) (Or.inl ⟨by rfl, fun w hSw => (by go_simp; try with_reducible rfl)⟩) (by with_reducible exact HD.out) ?_
    try simp only [Act.put, List.setIfInBounds_toArray, List.set_cons_zero, List.set_cons_succ]
    refine anyU_take2 (i := 7) (v := .bool false) (by simp only [List.getElem?_toArray, List.getElem?_cons_succ, List.getElem?_cons_zero]; exact rfl) (by kernel_rfl) 12 (by kernel_rfl) (by kernel_rfl) (fun _ _ _ h => h) (by kernel_rfl) (by kernel_rfl) (by kernel_rfl) (by kernel_rfl) (Or.inl ⟨by rfl, fun w hSw => (by go_simp; try with_reducible rfl)⟩) (by with_reducible exact HD.out) ?_
    try simp only [Act.put, List.setIfInBounds_toArray, List.set_cons_zero, List.set_cons_succ]
    refine anyU_take2 (i := 8) (v := undef) (by simp only [List.getElem?_toArray, List.getElem?_cons_succ, List.getElem?_cons_zero]; exact rfl) (by kernel_rfl) 12 (by kernel_rfl) (by kernel_rfl) (fun _ _ _ h => h) (by kernel_rfl) (by kernel_rfl) (by kernel_rfl) (by kernel_rfl) (Or.inr ⟨by rfl, by rfl⟩) (by with_reducible exact HD.out) ?_
    try simp only [Act.put, List.setIfInBounds_toArray, List.set_cons_zero, List.set_cons_succ]
    refine anyU_take2 (i := 9) (v := undef) (by simp only [List.getElem?_toArray, List.getElem?_cons_succ, List.getElem?_cons_zero]; exact rfl) (by kernel_rfl) 12 (by kernel_rfl) (by kernel_rfl) (fun _ _ _ h => h) (by kernel_rfl) (by kernel_rfl) (by kernel_rfl) (by kernel_rfl) (Or.inr ⟨by rfl, by rfl⟩) (by with_reducible exact HD.out) ?_
    try simp only [Act.put, List.setIfInBounds_toArray, List.set_cons_zero, List.set_cons_succ]
    refine anyU_take2 (i := 10) (v := undef) (by simp only [List.getElem?_toArray, List.getElem?_cons_succ, List.getElem?_cons_zero]; exact rfl) (by kernel_rfl) 12 (by kernel_rfl) (by kernel_rfl) (fun _ _ _ h => h) (by kernel_rfl) (by kernel_rfl) (by kernel_rfl) (by kernel_rfl) (Or.inr ⟨by rfl, by rfl⟩) (by with_reducible exact HD.out) ?_
    try simp only [Act.put, List.setIfInBounds_toArray, List.set_cons_zero, List.set_cons_succ]
    refine anyU_take2 (i := 11) (v := undef) (by simp only [List.getElem?_toArray, List.getElem?_cons_succ, List.getElem?_cons_zero]; exact rfl) (by kernel_rfl) 12 (by kernel_rfl) (by kernel_rfl) (fun _ _ _ h => h) (by kernel_rfl) (by kernel_rfl) (by kernel_rfl) (by kernel_rfl) (Or.inr ⟨by rfl, by rfl⟩) (by with_reducible exact HD.out) ?_
    try simp only [Act.put, List.setIfInBounds_toArray, List.set_cons_zero, List.set_cons_succ]
    refine anyU_take2 (i := 12) (v := undef) (by simp only [List.getElem?_toArray, List.getElem?_cons_succ, List.getElem?_cons_zero]; exact rfl) (by kernel_rfl) 12 (by kernel_rfl) (by kernel_rfl) (fun _ _ _ h => h) (by kernel_rfl) (by kernel_rfl) (by kernel_rfl) (by kernel_rfl) (Or.inr ⟨by rfl, by rfl⟩) (by with_reducible exact HD.out) ?_
    try simp only [Act.put, List.setIfInBounds_toArray, List.set_cons_zero, List.set_cons_succ]
    refine anyU_take2 (i := 13) (v := undef) (by simp only [List.getElem?_toArray, List.getElem?_cons_succ, List.getElem?_cons_zero]; exact rfl) (by kernel_rfl) 12 (by kernel_rfl) (by kernel_rfl) (fun _ _ _ h => h) (by kernel_rfl) (by kernel_rfl) (by kernel_rfl) (by kernel_rfl) (Or.inr ⟨by rfl, by rfl⟩) (by with_reducible exact HD.out) ?_
    try simp only [Act.put, List.setIfInBounds_toArray, List.set_cons_zero, List.set_cons_succ]
    refine anyU_take2 (i := 14) (v := undef) (by simp only [List.getElem?_toArray, List.getElem?_cons_succ, List.getElem?_cons_zero]; exact rfl) (by kernel_rfl) 12 (by kernel_rfl) (by kernel_rfl) (fun _ _ _ h => h) (by kernel_rfl) (by kernel_rfl) (by kernel_rfl) (by kernel_rfl) (Or.inr ⟨by rfl, by rfl⟩) (by with_reducible exact HD.out) ?_
    try simp only [Act.put, List.setIfInBounds_toArray, List.set_cons_zero, List.set_cons_succ]
    refine anyU_take2 (i := 15) (v := undef) (by simp only [List.getElem?_toArray, List.getElem?_cons_succ, List.getElem?_cons_zero]; exact rfl) (by kernel_rfl) 12 (by kernel_rfl) (by kernel_rfl) (fun _ _ _ h => h) (by kernel_rfl) (by kernel_rfl) (by kernel_rfl) (by kernel_rfl) (Or.inr ⟨by rfl, by rfl⟩) (by with_reducible exact HD.out) ?_
    try simp only [Act.put, List.setIfInBounds_toArray, List.set_cons_zero, List.set_cons_succ]
    refine anyU_take2 (i := 16) (v := undef) (by simp only [List.getElem?_toArray, List.getElem?_cons_succ, List.getElem?_cons_zero]; exact rfl) (by kernel_rfl) 12 (by kernel_rfl) (by kernel_rfl) (fun _ _ _ h => h) (by kernel_rfl) (by kernel_rfl) (by kernel_rfl) (by kernel_rfl) (Or.inr ⟨by rfl, by rfl⟩) (by with_reducible exact HD.out) ?_
    try simp only [Act.put, List.setIfInBounds_toArray, List.set_cons_zero, List.set_cons_succ]
    refine anyU_one (i := 17) (by kernel_rfl) (by simp only [List.getElem?_toArray, List.getElem?_cons_succ, List.getElem?_cons_zero]; exact rfl) (fun K hK => ?_)
    try go_simp
    refine hK.out _ _ (fun e _ => absurd rfl e) ?_
    clear hK K
    try simp only [Act.put]
    refine anyU_done (by kernel_rfl) ?_
    refine NoPanic.normal ?_
    try simp only [Act.put]
    go_upto_region 4 with (fail)
    replace HGI := hide (fun (w : World) (h : Below wd.heap.size wd w) => HGI.out w (kept_trans HD.out h))
    replace HB2 := hide (kept_trans HB2.out HD.out)
    clear HD
    refine wp_region_noPanic ?_
    refine wp_region_U 20 (fun w' : World => Below wd.heap.size wd w') (by kernel_rfl) ?_
    have HD := hide (show (fun w' : World => Below wd.heap.size wd w') wd.drew from kept_drewN (kept_refl _) 1)
    generalize wd.drew = wz at HD ⊢
    refine anyU_take2 (i := 0) (v := .int .i64 (j : Nat)) (by simp only [List.getElem?_toArray, List.getElem?_cons_zero]; exact rfl) (by kernel_rfl) 12 (by kernel_rfl) (by kernel_rfl) (fun _ _ _ h => h) (by kernel_rfl) (by kernel_rfl) (by kernel_rfl) (by kernel_rfl) (Or.inl ⟨by rfl, fun w hSw => (by go_simp; try with_reducible rfl)⟩) (by with_reducible exact HD.out) ?_
    try simp only [Act.put, List.setIfInBounds_toArray, List.set_cons_zero, List.set_cons_succ]
    refine anyU_take2 (i := 1) (v := .int .i64 (j : Nat)) (by simp only [List.getElem?_toArray, List.getElem?_cons_succ, List.getElem?_cons_zero]; exact rfl) (by kernel_rfl) 12 (by kernel_rfl) (by kernel_rfl) (fun _ _ _ h => h) (by kernel_rfl) (by kernel_rfl) (by kernel_rfl) (by kernel_rfl) (Or.inl ⟨by rfl, fun w hSw => (by go_simp; try with_reducible rfl)⟩) (by with_reducible exact HD.out) ?_
    try simp only [Act.put, List.setIfInBounds_toArray, List.set_cons_zero, List.set_cons_succ]
    refine anyU_take2 (i := 2) (v := .pointer (some ⟨g, 0, none⟩)) (by simp only [List.getElem?_toArray, List.getElem?_cons_succ, List.getElem?_cons_zero]; exact rfl) (by kernel_rfl) 12 (by kernel_rfl) (by kernel_rfl) (fun _ _ _ h => h) (by kernel_rfl) (by kernel_rfl) (by kernel_rfl) (by kernel_rfl) (Or.inl ⟨by rfl, fun w hSw => (by go_simp; try with_reducible rfl)⟩) (by with_reducible exact HD.out) ?_
    try simp only [Act.put, List.setIfInBounds_toArray, List.set_cons_zero, List.set_cons_succ]
    refine anyU_take2 (i := 3) (v := .pointer (some ⟨g, 0, none⟩)) (by simp only [List.getElem?_toArray, List.getElem?_cons_succ, List.getElem?_cons_zero]; exact rfl) (by kernel_rfl) 12 (by kernel_rfl) (by kernel_rfl) (fun _ _ _ h => h) (by kernel_rfl) (by kernel_rfl) (by kernel_rfl) (by kernel_rfl) (Or.inl ⟨by rfl, fun w hSw => (by go_simp; try with_reducible rfl)⟩) (by with_reducible exact HD.out) ?_
    try simp only [Act.put, List.setIfInBounds_toArray, List.set_cons_zero, List.set_cons_succ]
    refine anyU_take2 (i := 4) (v := .pointer (some ⟨g, 0, none⟩)) (by simp only [List.getElem?_toArray, List.getElem?_cons_succ, List.getElem?_cons_zero]; exact rfl) (by kernel_rfl) 12 (by kernel_rfl) (by kernel_rfl) (fun _ _ _ h => h) (by kernel_rfl) (by kernel_rfl) (by kernel_rfl) (by kernel_rfl) (Or.inl ⟨by rfl, fun w hSw => (by go_simp; try with_reducible rfl)⟩) (by with_reducible exact HD.out) ?_
    try simp only [Act.put, List.setIfInBounds_toArray, List.set_cons_zero, List.set_cons_succ]
    refine anyU_take2 (i := 5) (v := .slice A j a) (by simp only [List.getElem?_toArray, List.getElem?_cons_succ, List.getElem?_cons_zero]; exact rfl) (by kernel_rfl) 12 (by kernel_rfl) (by kernel_rfl) (fun _ _ _ h => h) (by kernel_rfl) (by kernel_rfl) (by kernel_rfl) (by kernel_rfl) (Or.inl ⟨by rfl, fun w hSw => (by have c0 := HGI.out w hSw; go_simp; try with_reducible rfl)⟩) (by with_reducible exact HD.out) ?_
    try simp only [Act.put, List.setIfInBounds_toArray, List.set_cons_zero, List.set_cons_succ]
    refine anyU_take2 (i := 6) (v := .int .i64 (j : Nat)) (by simp only [List.getElem?_toArray, List.getElem?_cons_succ, List.getElem?_cons_zero]; exact rfl) (by kernel_rfl) 12 (by kernel_rfl) (by kernel_rfl) (fun _ _ _ h => h) (by kernel_rfl) (by kernel_rfl) (by kernel_rfl) (by kernel_rfl) (Or.inl ⟨by rfl, fun w hSw => (by go_simp; try with_reducible rfl)⟩) (by with_reducible exact HD.out) ?_
    try simp only [Act.put, List.setIfInBounds_toArray, List.set_cons_zero, List.set_cons_succ]
    refine anyU_take2 (i := 7) (v := .bool false) (by simp only [List.getElem?_toArray, List.getElem?_cons_succ, List.getElem?_cons_zero]; exact rfl) (by kernel_rfl) 12 (by kernel_rfl) (by kernel_rfl) (fun _ _ _ h => h) (by kernel_rfl) (by kernel_rfl) (by kernel_rfl) (by kernel_rfl) (Or.inl ⟨by rfl, fun w hSw => (by go_simp; try with_reducible rfl)⟩) (by with_reducible exact HD.out) ?_
    try simp only [Act.put, List.setIfInBounds_toArray, List.set_cons_zero, List.set_cons_succ]
    refine anyU_take2 (i := 8) (v := .bool false) (by simp only [List.getElem?_toArray, List.getElem?_cons_succ, List.getElem?_cons_zero]; exact rfl) (by kernel_rfl) 12 (by kernel_rfl) (by kernel_rfl) (fun _ _ _ h => h) (by kernel_rfl) (by kernel_rfl) (by kernel_rfl) (by kernel_rfl) (Or.inl ⟨by rfl, fun w hSw => (by go_simp; try with_reducible rfl)⟩) (by with_reducible exact HD.out) ?_
    try simp only [Act.put, List.setIfInBounds_toArray, List.set_cons_zero, List.set_cons_succ]
    refine anyU_take2 (i := 9) (v := undef) (by simp only [List.getElem?_toArray, List.getElem?_cons_succ, List.getElem?_cons_zero]; exact rfl) (by kernel_rfl) 12 (by kernel_rfl) (by kernel_rfl) (fun _ _ _ h => h) (by kernel_rfl) (by kernel_rfl) (by kernel_rfl) (by kernel_rfl) (Or.inr ⟨by rfl, by rfl⟩) (by with_reducible exact HD.out) ?_
    try simp only [Act.put, List.setIfInBounds_toArray, List.set_cons_zero, List.set_cons_succ]
    refine anyU_take2 (i := 10) (v := undef) (by simp only [List.getElem?_toArray, List.getElem?_cons_succ, List.getElem?_cons_zero]; exact rfl) (by kernel_rfl) 12 (by kernel_rfl) (by kernel_rfl) (fun _ _ _ h => h) (by kernel_rfl) (by kernel_rfl) (by kernel_rfl) (by kernel_rfl) (Or.inr ⟨by rfl, by rfl⟩) (by with_reducible exact HD.out) ?_
    try simp only [Act.put, List.setIfInBounds_toArray, List.set_cons_zero, List.set_cons_succ]
    refine anyU_take2 (i := 11) (v := undef) (by simp only [List.getElem?_toArray, List.getElem?_cons_succ, List.getElem?_cons_zero]; exact rfl) (by kernel_rfl) 12 (by kernel_rfl) (by kernel_rfl) (fun _ _ _ h => h) (by kernel_rfl) (by kernel_rfl) (by kernel_rfl) (by kernel_rfl) (Or.inr ⟨by rfl, by rfl⟩) (by with_reducible exact HD.out) ?_
    try simp only [Act.put, List.setIfInBounds_toArray, List.set_cons_zero, List.set_cons_succ]
    refine anyU_take2 (i := 12) (v := undef) (by simp only [List.getElem?_toArray, List.getElem?_cons_succ, List.getElem?_cons_zero]; exact rfl) (by kernel_rfl) 12 (by kernel_rfl) (by kernel_rfl) (fun _ _ _ h => h) (by kernel_rfl) (by kernel_rfl) (by kernel_rfl) (by kernel_rfl) (Or.inr ⟨by rfl, by rfl⟩) (by with_reducible exact HD.out) ?_
    try simp only [Act.put, List.setIfInBounds_toArray, List.set_cons_zero, List.set_cons_succ]
    refine anyU_take2 (i := 13) (v := undef) (by simp only [List.getElem?_toArray, List.getElem?_cons_succ, List.getElem?_cons_zero]; exact rfl) (by kernel_rfl) 12 (by kernel_rfl) (by kernel_rfl) (fun _ _ _ h => h) (by kernel_rfl) (by kernel_rfl) (by kernel_rfl) (by kernel_rfl) (Or.inr ⟨by rfl, by rfl⟩) (by with_reducible exact HD.out) ?_
    try simp only [Act.put, List.setIfInBounds_toArray, List.set_cons_zero, List.set_cons_succ]
    refine anyU_take2 (i := 14) (v := undef) (by simp only [List.getElem?_toArray, List.getElem?_cons_succ, List.getElem?_cons_zero]; exact rfl) (by kernel_rfl) 12 (by kernel_rfl) (by kernel_rfl) (fun _ _ _ h => h) (by kernel_rfl) (by kernel_rfl) (by kernel_rfl) (by kernel_rfl) (Or.inr ⟨by rfl, by rfl⟩) (by with_reducible exact HD.out) ?_
    try simp only [Act.put, List.setIfInBounds_toArray, List.set_cons_zero, List.set_cons_succ]
    refine anyU_take2 (i := 15) (v := undef) (by simp only [List.getElem?_toArray, List.getElem?_cons_succ, List.getElem?_cons_zero]; exact rfl) (by kernel_rfl) 12 (by kernel_rfl) (by kernel_rfl) (fun _ _ _ h => h) (by kernel_rfl) (by kernel_rfl) (by kernel_rfl) (by kernel_rfl) (Or.inr ⟨by rfl, by rfl⟩) (by with_reducible exact HD.out) ?_
    try simp only [Act.put, List.setIfInBounds_toArray, List.set_cons_zero, List.set_cons_succ]
    refine anyU_take2 (i := 16) (v := undef) (by simp only [List.getElem?_toArray, List.getElem?_cons_succ, List.getElem?_cons_zero]; exact rfl) (by kernel_rfl) 12 (by kernel_rfl) (by kernel_rfl) (fun _ _ _ h => h) (by kernel_rfl) (by kernel_rfl) (by kernel_rfl) (by kernel_rfl) (Or.inr ⟨by rfl, by rfl⟩) (by with_reducible exact HD.out) ?_
    try simp only [Act.put, List.setIfInBounds_toArray, List.set_cons_zero, List.set_cons_succ]
    refine anyU_take2 (i := 17) (v := undef) (by simp only [List.getElem?_toArray, List.getElem?_cons_succ, List.getElem?_cons_zero]; exact rfl) (by kernel_rfl) 12 (by kernel_rfl) (by kernel_rfl) (fun _ _ _ h => h) (by kernel_rfl) (by kernel_rfl) (by kernel_rfl) (by kernel_rfl) (Or.inr ⟨by rfl, by rfl⟩) (by with_reducible exact HD.out) ?_
    try simp only [Act.put, List.setIfInBounds_toArray, List.set_cons_zero, List.set_cons_succ]
    refine anyU_take2 (i := 18) (v := .bool false) (by simp only [List.getElem?_toArray, List.getElem?_cons_succ, List.getElem?_cons_zero]; exact rfl) (by kernel_rfl) 12 (by kernel_rfl) (by kernel_rfl) (fun _ _ _ h => h) (by kernel_rfl) (by kernel_rfl) (by kernel_rfl) (by kernel_rfl) (Or.inl ⟨by rfl, fun w hSw => (by go_simp; try with_reducible rfl)⟩) (by with_reducible exact HD.out) ?_
    try simp only [Act.put, List.setIfInBounds_toArray, List.set_cons_zero, List.set_cons_succ]
    refine anyU_take2 (i := 19) (v := .int .i64 (j : Nat)) (by simp only [List.getElem?_toArray, List.getElem?_cons_succ, List.getElem?_cons_zero]; exact rfl) (by kernel_rfl) 12 (by kernel_rfl) (by kernel_rfl) (fun _ _ _ h => h) (by kernel_rfl) (by kernel_rfl) (by kernel_rfl) (by kernel_rfl) (Or.inl ⟨by rfl, fun w hSw => (by go_simp; try with_reducible rfl)⟩) (by with_reducible exact HD.out) ?_
    try simp only [Act.put, List.setIfInBounds_toArray, List.set_cons_zero, List.set_cons_succ]
    refine anyU_one (i := 20) (by kernel_rfl) (by simp only [List.getElem?_toArray, List.getElem?_cons_succ, List.getElem?_cons_zero]; exact rfl) (fun K hK => ?_)
    try go_simp
    refine hK.out _ _ (fun e _ => absurd rfl e) ?_
    clear hK K
    try simp only [Act.put]
    refine anyU_done (by kernel_rfl) ?_
    refine NoPanic.normal ?_
    try simp only [Act.put]
    go_wp2
    go_ret2
    exact ⟨rfl, kept_trans HB2.out HD.out⟩
end Go.Proofs.Ytiaegloipnhhdaa
/- The document's Cell. Condition: the list rises. -/
namespace Go.Proofs.Ytiaegloipnhhdaa
set_option maxRecDepth 100000
open Go.RowKit
theorem results_cb {fn : Func} {tmps : Array Value} {w : World} {a b h : Nat} {t : TypeId} {x : Cl} {v : Value} (hf : fn.results = #[.cell a 37, .tmp b]) (ht : tmps[a]? = some (.pointer (some ⟨h, 0, none⟩))) (L : CeAt w h t x) (hb : tmps[b]? = some v) :
    (results fn tmps).run Try.prog w = .ok (.tuple #[.agg (clC x), v]) w := by
  have hld := run_loadVar_row w h t 37 (clC x) _ _ L.r ce_under rfl (by rw [clC_size L.l]; exact ce_info)
  simp only [results, hf]
  simp [asAddr, ht, hb, hld]
def cellV (o : Option Cl) : Value := .tuple #[.agg (clC (o.getD zeroCl)), .bool o.isSome]
set_option maxHeartbeats 8000000 in
theorem rcell_any {base g : Nat} {w : World} {vI vC : Value} {k : List Lc} {d : List Int} (h : Ro base w g vI vC k d) (up : k.Pairwise fun e f => ltP e.i f.i = true) (i1 i2 : Int) (hl : k.length ≤ 1000000000) :
    Calls Try.prog 19 #[.pointer (some ⟨g, 0, none⟩), .agg #[.int .i64 i1, .int .i64 i2]] w fun e w' => e = .returned (cellV (cellL k (i1, i2))) ∧ Below w.heap.size w w' := by
  obtain ⟨A, a, B, b, rfl, rfl, ha, hb⟩ := h.form
  have HO := hide ((h.alloc (.cells #[.int .i64 i1, .int .i64 i2] 28)).alloc (.cells (clC zeroCl) 37))
  have HI := hide ((Row.new w 28 #[.int .i64 i1, .int .i64 i2]).alloc (.cells (clC zeroCl) 37))
  have hx := CeAt.new (x := zeroCl) rfl (w.alloc (.cells #[.int .i64 i1, .int .i64 i2] 28)) 37
  have hs : (w.alloc (.cells #[.int .i64 i1, .int .i64 i2] 28)).heap.size = w.heap.size + 1 := by simp
  rw [hs] at hx
  have HX := hide hx
  have HB := hide (kept_alloc (kept_alloc (kept_refl w) (.cells #[.int .i64 i1, .int .i64 i2] 28)) (.cells (clC zeroCl) 37))
  have HC := hide (fun w (h : Ro base w g (.slice A k.length a) (.slice B k.length b) k d) => rat_any h i1 i2 hl)
  clear hx hs
  cases hh : hereL k (i1, i2)
  · rw [cell_none up hh]
    simp only [hh] at HC
    clear h hh
    go_enter Try.func19, Try.ntmps19
    go_upto_region 1 with (fail)
    rw [zero_cl]
    generalize (w.alloc (.cells #[.int .i64 i1, .int .i64 i2] 28)).alloc (.cells (clC zeroCl) 37) = w1 at HO HI HX HB ⊢
    obtain ⟨bi, hbi⟩ : ∃ bi, bi = w.heap.size := ⟨_, rfl⟩
    rw [← hbi] at HI HX ⊢
    have HBI := hide (show w.heap.size ≤ bi + 1 by omega)
    clear hbi
    have c0 := HI.out.cell 0
    have c1 := HI.out.cell 1
    go_upto_region 2 with (go_at_call 38; (with_reducible refine (HC.out _ HO.out).mono ?_); rintro e w2 ⟨rfl, hb2⟩; have HX := hide (HX.out.kept hb2); have HB := hide (kept_trans HB.out hb2); clear hb2)
    clear c0 c1
    go_wp2_with (first
      | ((with_reducible refine wpList_build_no ?_ (fill_cz _) ?_); rfl)
      | ((with_reducible refine wpList_store_xw (y := zeroCl) rfl ?_ ?_ HX.out ?_); rfl; rfl; intro w3 hx hg; have HX := hide hx; have HB := hide (below_own HB.out hg HBI.out); clear hx hg))
    exact bodyPost_ret (results_cb Try.results19 rfl HX.out rfl) rfl ⟨rfl, HB.out⟩
  · obtain ⟨e, he, _, hce⟩ := cell_here up hh
    have h8 := h.l8 e (List.mem_of_getElem? he)
    have hpn := (List.getElem?_eq_some_iff.1 he).1
    rw [hce]
    simp only [hh] at HC
    obtain ⟨gI, gC, rfl, rfl, _⟩ := h.at_ he
    generalize posL k (i1, i2) = p at he hpn HC
    have HR := hide (fun w (h : Ro base w g (.slice (some ⟨gI, 0, none⟩) k.length a) (.slice (some ⟨gC, 0, none⟩) k.length b) k d) => (show w.rangeAt gC (p * 21) e.c.l from by
      obtain ⟨x, y, e1, e2, _, _, r, _⟩ := h.at_ he
      cases e1
      cases e2
      exact r))
    clear h hh he hce
    obtain ⟨n, hn⟩ : ∃ n, k.length = n := ⟨_, rfl⟩
    rw [hn] at HO HC HR ha hb hpn hl
    have hpi : (p : Int) < (n : Int) := by omega
    have hpb : p < b := by omega
    clear hn up
    go_enter Try.func19, Try.ntmps19
    go_upto_region 1 with (fail)
    rw [zero_cl]
    generalize (w.alloc (.cells #[.int .i64 i1, .int .i64 i2] 28)).alloc (.cells (clC zeroCl) 37) = w1 at HO HI HX HB ⊢
    obtain ⟨bi, hbi⟩ : ∃ bi, bi = w.heap.size := ⟨_, rfl⟩
    rw [← hbi] at HI HX ⊢
    have HBI := hide (show w.heap.size ≤ bi + 1 by omega)
    clear hbi
    have c0 := HI.out.cell 0
    have c1 := HI.out.cell 1
    go_upto_region 2 with (go_at_call 38; (with_reducible refine (HC.out _ HO.out).mono ?_); rintro e w2 ⟨rfl, hb2⟩; have HO := hide (HO.out.below hb2); have HX := hide (HX.out.kept hb2); have HB := hide (kept_trans HB.out hb2); clear hb2)
    clear c0 c1
    have c1 := HO.out.c1
    go_wp2_with (first
      | ((with_reducible refine wpList_load_ce h8 ?_ ?_ (HR.out _ HO.out) ?_); rfl; rfl)
      | ((with_reducible refine wpList_store_xw h8 ?_ ?_ HX.out ?_); rfl; rfl; intro w3 hx hg; have HX := hide hx; have HB := hide (below_own HB.out hg HBI.out); clear hx hg))
    exact bodyPost_ret (results_cb Try.results19 rfl HX.out rfl) rfl ⟨rfl, HB.out⟩
end Go.Proofs.Ytiaegloipnhhdaa
/- The document's Top. Conditions: the instances that have cells are of replicas. -/
namespace Go.Proofs.Ytiaegloipnhhdaa
set_option maxRecDepth 100000
open Go.RowKit
/-- The greatest slots of the first j. -/
def topN (k : List Lc) (d : List Int) (j : Nat) : List Int := (k.take j).foldl topE d
theorem topN_zero (k : List Lc) (d : List Int) : topN k d 0 = d := rfl
theorem topN_step {k : List Lc} {d : List Int} {j : Nat} {e : Lc} (he : k[j]? = some e) : topN k d (j + 1) = topE (topN k d j) e := by
  unfold topN
  rw [List.take_add_one, he, List.foldl_append]
  rfl
theorem topN_all {k : List Lc} {d : List Int} {n : Nat} (h : k.length = n) : topN k d n = k.foldl topE d := by unfold topN; rw [List.take_of_length_le (by omega)]
theorem topN_len (k : List Lc) (d : List Int) (j : Nat) : (topN k d j).length = d.length := by
  unfold topN
  generalize k.take j = l
  induction l generalizing d with
  | nil => rfl
  | cons e l ih => rw [List.foldl_cons, ih]; unfold topE; rw [List.length_set]
theorem cA_cellk {w : World} {b : Nat} {t : TypeId} {d : List Int} (h : Row w b t (cA d)) {r : Nat} (hr : r < d.length) : w.cell? ⟨b, r, none⟩ = some (.int .i64 (ix d r)) := row_cA h r hr
theorem cA_putk (d : List Int) (r : Nat) (z : Int) : (cA d).setIfInBounds r (.int .i64 z) = cA (d.set r z) := by unfold cA cellsR; rw [List.setIfInBounds_toArray, List.map_set]
theorem results_de {fn : Func} {tmps : Array Value} {w : World} {a h : Nat} {t : TypeId} {d : List Int} (hf : fn.results = #[.cell a 25]) (ht : tmps.getD a undef = .pointer (some ⟨h, 0, none⟩)) (L : Row w h t (cA d)) (hd : d.length = 7) :
    (results fn tmps).run Try.prog w = .ok (.agg (cA d)) w :=
  results_cell_row hf tmps w h t _ _ _ ht L de_under rfl (by unfold cA; rw [List.size_toArray, length_cellsR, hd]; exact de_info)
theorem Ro.cuts {base g : Nat} {w : World} {vI vC : Value} {k : List Lc} {d : List Int} (h : Ro base w g vI vC k d) : w.rangeAt g 2 (cellsR d) := h.row.mid (A := [vI, vC]) (B := []) (by unfold lgC cellsR; simp) rfl
/-- While Top goes on: the answer's block, the one that is filled. -/
structure Tz (W w : World) (d : List Int) : Prop where
  a : Row w W.heap.size 25 (cA zero7)
  b : Row w (W.heap.size + 1) 25 (cA d)
  low : Below W.heap.size W w
theorem Tz.put {W w : World} {d : List Int} (h : Tz W w d) (r : Nat) (z : Int) : Tz W (w.setCell ⟨W.heap.size + 1, r, none⟩ (.int .i64 z)) (d.set r z) :=
  ⟨h.a.grown (grown_put (grown_refl w (some (W.heap.size + 1))) r _) (by simp), cA_putk d r z ▸ h.b.put r _, h.low.setCell (by show W.heap.size ≤ W.heap.size + 1; omega) _⟩
theorem Tz.drew {W w : World} {d : List Int} (h : Tz W w d) : Tz W w.drew d := ⟨h.a.drewN 1, h.b.drewN 1, kept_drewN h.low 1⟩
theorem de_all (d : List Int) : (cA d).all (·.oneCell') = true := all_oneCell_toArray (fun v hv => one_ints v hv)
theorem cA_seven {d : List Int} (h : d.length = 7) : (cA d).size = 7 := by unfold cA; rw [List.size_toArray, length_cellsR, h]
section
variable {ops : Array Oper} {rest : List Oper} {dd : Option Tmp} {ty : TypeId} {ps : String} {af : Array Edge} {x u : Operand} {a : Act} {w : World} {Q : Exit → Act → World → Prop} {b : Nat} {t : TypeId}
/-- Deps are stored, whole. -/
theorem wpList_store_de {d d' : List Int} (h7 : d.length = 7) (h7' : d'.length = 7) (hx : a.eval x = .pointer (some ⟨b, 0, none⟩)) (hy : a.eval u = .agg (cA d')) (R : Row w b t (cA d))
    (h : ∀ w', Row w' b t (cA d') → w.grownBy w' (some b) → wpList Try.prog ops Q rest (a.put dd undef) w') :
    wpList Try.prog ops Q ({ dst := dd, op := .store 25 x u, type := ty, pos := ps, after := af, guard := none } :: rest) a w :=
  wpList_plain rfl fun K hK => by
    unfold Oper.wp execOp
    simp only [hx, hy, Instr.storeAt, Instr.sureAddr, Sem.run_bind, Sem.run_pure, Result.andThen_ok, run_storeVar_row w b t 25 _ _ R (by rw [cA_seven h7']; exact de_info) (by rw [cA_seven h7, cA_seven h7']) (de_all d')]
    exact hK _ _ (h _ (setRow_heap w b _ _ _ _ R) ⟨rfl, rfl, rfl, by simp, fun k _ hk => setRow_other w b k _ (fun e => hk (by rw [e]))⟩)
end
set_option maxHeartbeats 8000000 in
theorem rtop_any {base g : Nat} {w : World} {vI vC : Value} {k : List Lc} {d : List Int} (h : Ro base w g vI vC k d) (hr : ∀ e, e ∈ k → 0 ≤ e.i.1 ∧ e.i.1 < 7) (hl : k.length ≤ 1000000000) :
    Calls Try.prog 35 #[.pointer (some ⟨g, 0, none⟩)] w fun e w' => e = .returned (.agg (cA (k.foldl topE d))) ∧ Below w.heap.size w w' := by
  obtain ⟨A, a, B, b, rfl, rfl, ha, _⟩ := h.form
  have HO := hide (fun w' (hb : Below w.heap.size w w') => h.below hb)
  have d7 := h.d7
  have hcut := h.cuts
  have HT := hide (show Tz w (((w.alloc (.cells (cA zero7) 25)).alloc (.cells (cA d) 25))) d from
    ⟨(Row.new w _ _).alloc _, by have h1 := Row.new (w.alloc (.cells (cA zero7) 25)) 25 (cA d); have hs : (w.alloc (.cells (cA zero7) 25)).heap.size = w.heap.size + 1 := by simp
                                 rw [hs] at h1; exact h1, kept_alloc (kept_alloc (kept_refl w) _) _⟩)
  have HCU := hide (fun w' (hb : Below w.heap.size w w') => (h.below hb).cuts)
  have H7 := hide d7
  have HR := hide hr
  obtain ⟨n, hn⟩ : ∃ n, k.length = n := ⟨_, rfl⟩
  rw [hn] at HO ha hl
  have HN := hide hn
  have HF := hide (topN_all (d := d) hn)
  rw [← topN_all (d := d) hn]
  have HA1 := hide (kept_alloc (kept_refl w) (.cells (cA zero7) 25))
  clear h d7 hcut hr hn
  go_enter Try.func35, Try.ntmps35
  go_upto_region 1 with (fail)
  have hz : #[Value.int IntKind.i64 0, Value.int IntKind.i64 0, Value.int IntKind.i64 0, Value.int IntKind.i64 0, Value.int IntKind.i64 0, Value.int IntKind.i64 0, Value.int IntKind.i64 0] = cA zero7 := rfl
  rw [hz]
  clear hz
  have hs : (w.alloc (.cells (cA zero7) 25)).heap.size = w.heap.size + 1 := by simp
  generalize w.alloc (.cells (cA zero7) 25) = w0 at HA1 HT hs ⊢
  have HS0 := hide hs
  clear hs
  go_upto_region 2 with (first
    | ((with_reducible refine wpList_load_de H7.out ?_ ?_ (HCU.out _ HA1.out) ?_); rfl; rfl)
    | ((with_reducible refine wpList_store_new (vs := cA d) ?_ ?_ (de_all _) ?_ ?_ ?_); (rw [cA_seven H7.out]; exact de_info); exact (cA_seven H7.out).symm; rfl; rfl))
  try simp only [Act.put]
  clear HA1 HCU
  generalize w0.alloc (.cells (cA d) 25) = w1 at HT ⊢
  rw [HS0.out]
  clear HS0
  go_wp2
  go_loopw [4] (fun i wr => ∃ j : Nat, j ≤ n ∧ i = .int .i64 j ∧ Hid (Tz w wr (topN k d j))) (fun i _ => n - (intOf i).toNat)
  case atStart => exact ⟨0, by omega, rfl, HT⟩
  case round =>
    clear HT
    obtain ⟨j, hj, rfl, HT⟩ := hrel
    have x0 := (HO.out _ HT.out.low).c0
    by_cases hjn : j < n
    · have hjni : (j : Int) < (n : Int) := by omega
      have hja : j < a := by omega
      have hjk : j < k.length := by rw [HN.out]; exact hjn
      obtain ⟨e, he⟩ : ∃ e, k[j]? = some e := ⟨_, List.getElem?_eq_getElem hjk⟩
      obtain ⟨q0, q7⟩ := HR.out e (List.mem_of_getElem? he)
      obtain ⟨r, hr⟩ : ∃ r : Nat, e.i.1 = r := ⟨e.i.1.toNat, by omega⟩
      have hr7 : r < 7 := by omega
      have hr7i : (r : Int) < 7 := by omega
      have hr0 : (0 : Int) ≤ (r : Int) := by omega
      obtain ⟨gI, gC, rfl, rfl, l0, l1, _, _, _⟩ := (HO.out _ HT.out.low).at_ he
      rw [hr] at l0
      have hT7 : (topN k d j).length = 7 := by rw [topN_len, H7.out]
      have c0 : wr.cell? ⟨w.heap.size + 1, r, none⟩ = some (.int .i64 (ix (topN k d j) r)) := cA_cellk HT.out.b (by rw [hT7]; exact hr7)
      have f0 := HT.out.b.free r
      have HS := hide (show Tz w (wr.setCell ⟨w.heap.size + 1, r, none⟩ (.int .i64 (max (ix (topN k d j) r) e.i.2))).drew (topN k d (j + 1)) from by
        rw [topN_step he]
        unfold topE
        rw [hr, Int.toNat_natCast]
        exact (HT.out.put r _).drew)
      clear HT hT7 q0 q7 hjk he hr
      generalize e.i.2 = s at l1 HS
      go_upto_region 5 with (fail)
      go_region
      clear x0 l0 l1 c0 f0
      generalize World.drew (World.setCell wr _ _) = wv at HS ⊢
      go_wp2
      go_roundw
      case rel => exact ⟨j + 1, by omega, by go_num, HS⟩
      case measure => simp [intOf]; omega
    · obtain rfl : j = n := by omega
      have hT7 := hide (show (topN k d j).length = 7 by rw [topN_len, H7.out])
      have HTB := hide (HT.out.b.mid (A := []) (ys := cellsR (topN k d j)) (B := []) (o := 0) (by unfold cA; simp) rfl)
      obtain ⟨T, hT⟩ : ∃ T, topN k d j = T := ⟨_, rfl⟩
      have HE := hide hT
      rw [hT] at HT hT7 HTB
      clear hT
      go_wp2_with (first
        | ((with_reducible refine wpList_load_de hT7.out ?_ ?_ HTB.out ?_); rfl; rfl)
        | ((with_reducible refine wpList_store_de (d := zero7) rfl hT7.out ?_ ?_ HT.out.a ?_); rfl; rfl; intro w3 hx hg; have HX := hide hx; have HB := hide (below_own HT.out.low hg (Nat.le_refl _)); clear hx hg))
      exact bodyPost_ret (results_de Try.results35 rfl HX.out hT7.out) rfl ⟨by rw [HE.out], HB.out⟩
end Go.Proofs.Ytiaegloipnhhdaa
/- A call in a block of its own; light. Conditions: a call that came in. -/
namespace Go.Proofs.Ytiaegloipnhhdaa
set_option maxRecDepth 100000
open Go.RowKit
theorem ga_under : Try.prog.underlying 51 = some (.struct (Try.prog.fieldsOf 51)) := by kernel_rfl
theorem ga_info : (Try.prog.info? 51).map (·.size) = some 31 := by kernel_rfl
theorem gaC_size {x : Ga} (h : GaOk x) : (gaC x).size = 31 := by unfold gaC; rw [List.size_toArray]; exact Ga.len h
theorem ga_all (x : Ga) : (gaC x).all (·.oneCell') = true := all_oneCell_toArray (fun v hv => by
  unfold Ga.l at hv
  simp only [List.mem_cons, List.mem_append] at hv
  rcases hv with rfl | rfl | rfl | hv | hv
  · rfl
  · rfl
  · rfl
  · exact one_cl x.c v hv
  · exact one_ints v hv)
/-- A call in a block of its own. -/
structure GaAt (w : World) (b : Nat) (x : Ga) : Prop where
  r : Row w b 51 (gaC x)
  ok : GaOk x
section
variable {w w' : World} {b : Nat} {x : Ga}
theorem GaAt.kept (h : GaAt w b x) (hb : Below w.heap.size w w') : GaAt w' b x := ⟨h.r.below hb h.r.lt, h.ok⟩
theorem GaAt.grown {row : Option Nat} (h : GaAt w b x) (hg : w.grownBy w' row) (hn : some b ≠ row) : GaAt w' b x := ⟨h.r.grown hg hn, h.ok⟩
theorem GaAt.kind (h : GaAt w b x) : w.cell? ⟨b, 0, none⟩ = some (.int .i64 x.k) := h.r.cell 0
theorem GaAt.i0 (h : GaAt w b x) : w.cell? ⟨b, 1, none⟩ = some (.int .i64 x.i.1) := h.r.cell 1
theorem GaAt.i1 (h : GaAt w b x) : w.cell? ⟨b, 2, none⟩ = some (.int .i64 x.i.2) := h.r.cell 2
theorem GaAt.cell (h : GaAt w b x) : w.rangeAt b 3 x.c.l := h.r.mid (A := [.int .i64 x.k, .int .i64 x.i.1, .int .i64 x.i.2]) (B := cellsR x.u) (by unfold gaC Ga.l; simp) rfl
theorem GaAt.upto (h : GaAt w b x) : w.rangeAt b 24 (cellsR x.u) := h.r.mid (A := [.int .i64 x.k, .int .i64 x.i.1, .int .i64 x.i.2] ++ x.c.l) (B := []) (by unfold gaC Ga.l; simp) (by rw [List.length_append, Cl.len h.ok.c.a]; rfl)
theorem GaAt.new (h : GaOk x) (w : World) : GaAt (w.alloc (.cells (gaC x) 51)) w.heap.size x := ⟨Row.new w _ _, h⟩
end
theorem GasIn.at_ {W w : World} {A : Option Addr} {n c : Nat} {l : List Ga} (h : GasIn W A n c l) (hb : Below W.heap.size W w) {j : Nat} {x : Ga} (hj : l[j]? = some x) : ∃ g off, A = some ⟨g, off, none⟩ ∧ w.rangeAt g (off + j * 31) x.l := by
  have hl : (l.map Ga.l)[j]? = some x.l := by rw [List.getElem?_map, hj]; rfl
  obtain ⟨g, off, e, hg, hc⟩ := Els.at_ h.lies hl
  refine ⟨g, off, e, fun i v hv => ?_⟩
  have hi : i < 31 := by
    have := (List.getElem?_eq_some_iff.1 hv).1
    rwa [Ga.len (h.ok x (List.mem_of_getElem? hj))] at this
  have h2 := hc i hi
  rw [hv] at h2
  exact (hb.cell (p := ⟨g, off + j * 31 + i, none⟩) hg).trans h2
theorem zero_ga : (#[.int .i64 0, .int .i64 0, .int .i64 0, .int .i64 0, .int .i64 0, .int .i64 0, .int .i64 0, .int .i64 0, .int .i64 0, .int .i64 0, .int .i64 0, .string ⟨#[]⟩, .string ⟨#[]⟩, .string ⟨#[]⟩, .string ⟨#[]⟩, .int .i64 0, .int .i64 0, .int .i64 0, .int .i64 0, .int .i64 0, .int .i64 0, .int .i64 0, .int .i64 0, .bool false, .int .i64 0, .int .i64 0, .int .i64 0, .int .i64 0, .int .i64 0, .int .i64 0, .int .i64 0] : Array Value).size = 31 := rfl
def sizeC (c : Cm) : Nat := c.key.size + c.en.size + c.old.size + c.val.size
def lightB (c : Cl) : Bool := decide (sizeC c.c < 500)
set_option maxHeartbeats 2000000 in
theorem light_any (c : Cl) (ok : ClIn c) (w : World) : Calls Try.prog 16 #[.agg (clC c)] w fun e w' => e = .returned (.bool (lightB c)) ∧ Below w.heap.size w w' := by
  have HL := hide (CeAt.new ok.a w 37)
  have HB := hide ((Below.refl w.heap.size w).alloc (Nat.le_refl _) (.cells (clC c) 37))
  obtain ⟨_, _, _, n1, n2, n3, n4⟩ := ok.c
  have e : lightB c = decide (((c.c.key.size : Int) + c.c.en.size + c.c.old.size + c.c.val.size) < 500) := by unfold lightB sizeC; exact decide_eq_decide.2 (by omega)
  rw [e]
  have HC := hide HL.out.c
  clear ok e
  go_enter Try.func16, Try.ntmps16
  go_upto_region 1 with (fail)
  generalize w.alloc (.cells (clC c) 37) = w1 at HC HB ⊢
  have c8 : w1.cell? ⟨w.heap.size, 8, none⟩ = some (.string c.c.key) := HC.out 3 _ rfl
  have c9 : w1.cell? ⟨w.heap.size, 9, none⟩ = some (.string c.c.en) := HC.out 4 _ rfl
  have c10 : w1.cell? ⟨w.heap.size, 10, none⟩ = some (.string c.c.old) := HC.out 5 _ rfl
  have c11 : w1.cell? ⟨w.heap.size, 11, none⟩ = some (.string c.c.val) := HC.out 6 _ rfl
  clear HL HC
  go_wp2
  all_goals (go_ret; exact ⟨ret_bool (Eq.refl _), HB.out⟩)
end Go.Proofs.Ytiaegloipnhhdaa
