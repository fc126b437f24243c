/- A set behind a pointer: what it is, what its calls come to. Conditions: it has room. -/
import Derived.Test.YtnbknhgfjjgcjaaList
import Derived.Deep.RegionLaw
import Derived.Deep.RegionHeld3
import Derived.StillTailTactics
namespace Go.Proofs.Ytnbknhgfjjgcjaa
open Go.RowKit Go.Maps
/-- The set at block g, whose map is block b, has just the instances of l, which rises. -/
structure Set (w : World) (g b : Nat) (l : List (Int × Int)) : Prop where
  row : Row w g 50 #[.map (some b)]
  map : ∃ D : DataW Unit, w.ownsMap Try.prog 25 unitElem b l.length D ∧ size D = l.length ∧ ∀ x, Ok x → (has D (kl x) = true ↔ x ∈ l)
  rise : Rise l
  ok : ∀ x, x ∈ l → Ok x
section
variable {w w' : World} {g b : Nat} {l : List (Int × Int)}
theorem Set.ne (h : Set w g b l) : g ≠ b := fun e => by
  obtain ⟨D, ⟨es, c, hb, _⟩, _⟩ := h.map
  have := h.row
  unfold Row at this
  rw [e, hb] at this; cases this
theorem Set.lt (h : Set w g b l) : g < w.heap.size ∧ b < w.heap.size := by
  obtain ⟨D, hD, _⟩ := h.map
  exact ⟨h.row.lt, hD.lt⟩
theorem Set.grown {row : Option Nat} (h : Set w g b l) (hg : w.grownBy w' row) (h1 : some g ≠ row) (h2 : some b ≠ row) : Set w' g b l := by
  obtain ⟨D, hD, hm⟩ := h.map
  exact ⟨h.row.grown hg h1, ⟨D, hD.kept hg h2, hm⟩, h.rise, h.ok⟩
theorem Set.below (h : Set w g b l) (hb : Below w.heap.size w w') : Set w' g b l := h.grown (grown_below hb) (by simp) (by simp)
theorem Set.alloc (h : Set w g b l) (o : Obj) : Set (w.alloc o) g b l := h.grown (World.grownBy_alloc w o none) (by simp) (by simp)
theorem Set.drewN (h : Set w g b l) (n : Nat) : Set (w.drewN n) g b l := ⟨h.row, h.map, h.rise, h.ok⟩
theorem Set.drew (h : Set w g b l) : Set w.drew g b l := ⟨h.row, h.map, h.rise, h.ok⟩
end
theorem unit_zero (w : World) : (zeroValue 55).run Try.prog w = .ok (.agg #[]) w := by kernel_rfl
/-- What a look-up comes to, in every world in which the set lies. -/
theorem Set.look {w : World} {g b : Nat} {l : List (Int × Int)} (h : Set w g b l) (r s : Int) (hx : Ok (r, s)) :
    (Instr.lookup 48 (.map (some b)) (.agg #[.int .i64 r, .int .i64 s]) true).run Try.prog w = .ok (.tuple #[.agg #[], .bool (decide ((r, s) ∈ l))]) w := by
  obtain ⟨D, hD, _, hm⟩ := h.map
  obtain ⟨v, ps, hr, hv⟩ := hD.look_ok law Try.underlying48 (unit_zero w) unitElem_mk (key_of (r, s) hx)
  obtain ⟨rfl, _⟩ := unitElem_inv hv
  have e : has D (kl (r, s)) = decide ((r, s) ∈ l) := by
    rw [Bool.eq_iff_iff, decide_eq_true_iff]; exact hm _ hx
  rw [e] at hr
  exact hr
set_option maxHeartbeats 1000000 in
theorem has_any (g b : Nat) (l : List (Int × Int)) (r s : Int) (w : World) (h : Set w g b l) (hx : Ok (r, s)) :
    Calls Try.prog 18 #[.pointer (some ⟨g, 0, none⟩), .agg #[.int .i64 r, .int .i64 s]] w fun e w' => e = .returned (.bool (decide ((r, s) ∈ l))) ∧ Below w.heap.size w w' := by
  have hl := hide fun W (h : Set W g b l) => h.look r s hx
  have hb := hide ((Below.refl w.heap.size w).alloc (Nat.le_refl _) (.cells #[.int .i64 r, .int .i64 s] 25))
  have H := hide (h.alloc (.cells #[.int .i64 r, .int .i64 s] 25))
  generalize decide ((r, s) ∈ l) = a at hl ⊢
  clear h
  go_enter Try.func18, Try.ntmps18
  go_upto_region 1 with (fail)
  have R0 := hide (Row.new w 25 #[.int .i64 r, .int .i64 s])
  generalize (w.alloc (.cells #[.int .i64 r, .int .i64 s] 25)) = W at *
  have c0 : W.cell? ⟨g, 0, none⟩ = some (.map (some b)) := H.out.row.cell 0
  have c1 : W.cell? ⟨w.heap.size, 0, none⟩ = some (.int .i64 r) := R0.out.cell 0
  have c2 : W.cell? ⟨w.heap.size, 1, none⟩ = some (.int .i64 s) := R0.out.cell 1
  have l1 := hl.out W.drew H.out.drew
  have l2 := hl.out (W.alloc (.cells #[] 55)).drew (H.out.alloc _).drew
  have d0 : (W.alloc (.cells #[] 55)).cell? ⟨g, 0, none⟩ = some (.map (some b)) := (H.out.row.alloc _).cell 0
  have d1 : (W.alloc (.cells #[] 55)).cell? ⟨w.heap.size, 0, none⟩ = some (.int .i64 r) := (R0.out.alloc _).cell 0
  have d2 : (W.alloc (.cells #[] 55)).cell? ⟨w.heap.size, 1, none⟩ = some (.int .i64 s) := (R0.out.alloc _).cell 1
  go_region
  all_goals
    go_wp2
    go_ret
    exact ⟨rfl, kept_drewN (kept_alloc hb.out _) 1⟩
theorem tight {w : World} {b n : Nat} {D : DataW Unit} (h : w.ownsMap Try.prog 25 unitElem b n D) : w.ownsMap Try.prog 25 unitElem b (size D) D := by
  obtain ⟨es, c, hb, F, hs, rfl⟩ := h
  exact ⟨es, c, hb, F, by simp [size, length_sorted], rfl⟩
open Classical in
/-- The set behind i put in. -/
theorem Set.put {w : World} {g b : Nat} {l : List (Int × Int)} (h : Set w g b l) (r s : Int) (hx : Ok (r, s)) (hn : l.length < maxLen) :
    ∃ w', (Instr.mapUpdate 48 (.map (some b)) (.agg #[.int .i64 r, .int .i64 s]) (.agg #[])).run Try.prog w = .ok () w' ∧ Set w' g b (ins (r, s) l) ∧ w.grownBy w' (some b) := by
  obtain ⟨D, hD, hz, hm⟩ := h.map
  obtain ⟨w', hr, hD', hg⟩ := hD.update law Try.underlying48 hn (key_of (r, s) hx) unitElem_mk
  have ht := hD.tidy law
  have hm' : ∀ x, Ok x → (has (D.put (kl (r, s)) (.agg [])) (kl x) = true ↔ x ∈ ins (r, s) l) := fun x hxx => by
    rw [mem_ins]
    by_cases e : x = (r, s)
    · subst e; simp [has_put_same ht.isMap (kl_key _)]
    · rw [has_put_other (fun k => e (kl_inj hxx hx k))]; rw [hm x hxx]; simp [e]
  have hz' : size (D.put (kl (r, s)) (.agg [])) = (ins (r, s) l).length := by
    rw [size_put ht, length_ins h.rise, hz]
    by_cases hi : (r, s) ∈ l
    · rw [if_pos ((hm _ hx).2 hi), if_pos hi]
    · rw [if_neg (fun k => hi ((hm _ hx).1 k)), if_neg hi]
  refine ⟨w', hr, ⟨h.row.grown hg (fun e => h.ne (Option.some.inj e)), ⟨_, ?_, hz', hm'⟩, rise_ins h.rise, fun x hx' => ?_⟩, hg⟩
  · rw [← hz']; exact tight hD'
  · rcases mem_ins.1 hx' with rfl | hx'
    · exact hx
    · exact h.ok x hx'
open Classical in
/-- The set behind i taken out. -/
theorem Set.strike {w : World} {g b : Nat} {l : List (Int × Int)} (h : Set w g b l) (r s : Int) (hx : Ok (r, s)) {D : DataW Unit} {w' : World} (hm : ∀ x, Ok x → (has D (kl x) = true ↔ x ∈ l)) (hz : size D = l.length) (ht : Tidy D)
    (hD' : w'.ownsMap Try.prog 25 unitElem b l.length (D.del (kl (r, s)))) (hg : w.grownBy w' (some b)) : Set w' g b (del (r, s) l) := by
  have hm' : ∀ x, Ok x → (has (D.del (kl (r, s))) (kl x) = true ↔ x ∈ del (r, s) l) := fun x hxx => by
    rw [mem_del]
    by_cases e : x = (r, s)
    · subst e; simp [has_del_same]
    · rw [has_del_other (fun k => e (kl_inj hxx hx k))]; rw [hm x hxx]; simp [e]
  have hz' : size (D.del (kl (r, s))) = (del (r, s) l).length := by
    have h1 := size_del (k := kl (r, s)) ht
    have h2 := length_del (i := (r, s)) h.rise
    by_cases hi : (r, s) ∈ l
    · rw [if_pos ((hm _ hx).2 hi)] at h1; rw [if_pos hi] at h2; omega
    · rw [if_neg (fun k => hi ((hm _ hx).1 k))] at h1; rw [if_neg hi] at h2; omega
  refine ⟨h.row.grown hg (fun e => h.ne (Option.some.inj e)), ⟨_, ?_, hz', hm'⟩, rise_del h.rise, fun x hx' => h.ok x (mem_del.1 hx').1⟩
  rw [← hz']; exact tight hD'
set_option maxHeartbeats 1000000 in
theorem add_any (g b : Nat) (l : List (Int × Int)) (r s : Int) (w : World) (h : Set w g b l) (hx : Ok (r, s)) (hn : l.length < maxLen) :
    Calls Try.prog 13 #[.pointer (some ⟨g, 0, none⟩), .agg #[.int .i64 r, .int .i64 s]] w fun e w' => e = .returned (.bool (!decide ((r, s) ∈ l))) ∧ Set w' g b (ins (r, s) l) ∧ w.grownBy w' (some b) := by
  have hl := hide fun W (h : Set W g b l) => has_any g b l r s W h hx
  have hp := hide fun W (h : Set W g b l) => h.put r s hx hn
  have hb := hide ((Below.refl w.heap.size w).alloc (Nat.le_refl _) (.cells #[.int .i64 r, .int .i64 s] 25))
  have H := hide (h.alloc (.cells #[.int .i64 r, .int .i64 s] 25))
  have R0 := hide (Row.new w 25 #[.int .i64 r, .int .i64 s])
  generalize decide ((r, s) ∈ l) = a at hl ⊢
  clear h
  go_enter Try.func13, Try.ntmps13
  go_upto_region 2 with (go_at_call 18; refine (hl.out _ H.out).mono ?_; rintro e W ⟨rfl, hw⟩)
  have H1 := H.out.below hw
  have R1 := R0.out.below hw R0.out.lt
  have hg : w.grownBy W none := grown_trans (World.grownBy_alloc w _ none) (grown_below hw)
  have c0 : W.cell? ⟨g, 0, none⟩ = some (.map (some b)) := H1.row.cell 0
  have c1 : W.cell? ⟨w.heap.size, 0, none⟩ = some (.int .i64 r) := R1.cell 0
  have c2 : W.cell? ⟨w.heap.size, 1, none⟩ = some (.int .i64 s) := R1.cell 1
  obtain ⟨w2, hr, hS, hg2⟩ := hp.out W.drew H1.drew
  have HS := hide hS
  have HG := hide (grown_trans (grown_drew (grown_any hg)) hg2)
  clear hw H1 R1 hg hg2 hS
  go_region
  go_wp2
  go_ret
  exact ⟨rfl, HS.out, HG.out⟩
set_option maxHeartbeats 1000000 in
theorem drop_any (g b : Nat) (l : List (Int × Int)) (r s : Int) (w : World) (h : Set w g b l) (hx : Ok (r, s)) :
    Calls Try.prog 14 #[.pointer (some ⟨g, 0, none⟩), .agg #[.int .i64 r, .int .i64 s]] w fun e w' => e = .returned (.bool (decide ((r, s) ∈ l))) ∧ Set w' g b (del (r, s) l) ∧ w.grownBy w' (some b) := by
  have hl := hide fun W (h : Set W g b l) => has_any g b l r s W h hx
  have H := hide (h.alloc (.cells #[.int .i64 r, .int .i64 s] 25))
  have R0 := hide (Row.new w 25 #[.int .i64 r, .int .i64 s])
  generalize decide ((r, s) ∈ l) = a at hl ⊢
  clear h
  go_enter Try.func14, Try.ntmps14
  go_upto_region 2 with (go_at_call 18; refine (hl.out _ H.out).mono ?_; rintro e W ⟨rfl, hw⟩)
  have H1 := hide ((H.out.below hw).drew)
  have R1 := (R0.out.below hw R0.out.lt).drew
  have hg : w.grownBy W.drew (some b) := grown_drew (grown_any (grown_trans (World.grownBy_alloc w _ none) (grown_below hw)))
  have HG := hide hg
  have c0 : W.drew.cell? ⟨g, 0, none⟩ = some (.map (some b)) := H1.out.row.cell 0
  have c1 : W.drew.cell? ⟨w.heap.size, 0, none⟩ = some (.int .i64 r) := R1.cell 0
  have c2 : W.drew.cell? ⟨w.heap.size, 1, none⟩ = some (.int .i64 s) := R1.cell 1
  clear hw R1 hg
  refine wp_region_still_tail 5 (by kernel_rfl) (by kernel_rfl) ?_
  change wpStill _ _ W.drew (fun a' => wpList _ _ _ _ a' W.drew) _ _
  generalize W.drew = W3 at *
  simp only [List.take_succ_cons, List.take_zero, List.drop_succ_cons, List.drop_zero]
  still_step
  still_step
  still_step
  still_step
  still_step
  refine wpStill_nil ?_
  obtain ⟨D, hD, hz, hm⟩ := H1.out.map
  have HD := hide hD
  have HM := hide hm
  clear hm
  go_wp2_with (at_delete; refine wpList_delete_own _ rfl _ _ 48 25 rfl 55 law Try.underlying48 _ b l.length D rfl HD.out _ _ rfl (key_of (r, s) hx) ?_; intro w1 hown1 hturn1)
  go_ret
  exact ⟨rfl, H1.out.strike r s hx HM.out hz (HD.out.tidy law) hown1 hturn1.grown, grown_trans HG.out hturn1.grown⟩
set_option maxHeartbeats 400000 in
theorem len_any (g b : Nat) (l : List (Int × Int)) (w : World) (h : Set w g b l) :
    Calls Try.prog 10 #[.pointer (some ⟨g, 0, none⟩)] w fun e w' => e = .returned (.int .i64 l.length) ∧ ∃ n, w' = w.drewN n := by
  have c0 : w.cell? ⟨g, 0, none⟩ = some (.map (some b)) := h.row.cell 0
  obtain ⟨D, hD, hz, hm⟩ := h.map
  have HD := hide hD
  have HZ := hide hz
  clear hm hD hz h
  go_enter Try.func10, Try.ntmps10
  go_wp2_with (at_len; refine wpList_len_own _ rfl _ 48 rfl 25 55 Try.underlying48 _ b l.length D rfl HD.out ?_)
  go_ret
  rw [HZ.out]
  exact ⟨rfl, 0, rfl⟩
end Go.Proofs.Ytnbknhgfjjgcjaa
