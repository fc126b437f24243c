/- What segments comes to: the segments that a disk has, by rising names. Conditions: the disk lies in memory as it must and has few files. -/
import Derived.Test.YtkmcnhjfnjikaaaGreatDoorVsta
import Derived.Test.YtkmcnhjfnjikaaaGreatDoorVnam
import Derived.Test.YtkmcnhjfnjikaaaGreatDoorKfrb
import Derived.WalkSmall
import Derived.Maps.AppendAt
namespace Go.Proofs.YtkmcnhjfnjikaaaGreatDoor
open Go.RowKit Go.Maps
theorem Tryz.info80 : (Tryz.prog.info? 80).map (fun i => (i.zero, i.size, i.bytes)) = some (some (.agg #[.int .i64 0, .int .i64 0]), 2, 16) := by kernel_rfl
def two (x : Nat × Nat) : List Value := [.int .i64 x.1, .int .i64 x.2]
def cells2 (l : List (Nat × Nat)) : List Value := l.flatMap two
theorem length_cells2 : ∀ l : List (Nat × Nat), (cells2 l).length = l.length * 2
  | [] => rfl
  | x :: l => by
    have := length_cells2 l
    unfold cells2 at this ⊢
    rw [List.flatMap_cons, List.length_append, this, List.length_cons]
    show 2 + l.length * 2 = _
    omega
theorem cells2_append (l m : List (Nat × Nat)) : cells2 (l ++ m) = cells2 l ++ cells2 m := by unfold cells2; exact List.flatMap_append
theorem cells2_of : ∀ {l : List (Nat × Nat)} {k : Nat} {x : Nat × Nat}, l[k]? = some x → (cells2 l)[k * 2]? = some (.int .i64 x.1) ∧ (cells2 l)[k * 2 + 1]? = some (.int .i64 x.2)
  | [], k, x, h => by simp at h
  | y :: r, 0, x, h => by
    simp at h; subst h
    exact ⟨rfl, rfl⟩
  | y :: r, k + 1, x, h => by
    have := cells2_of (l := r) (k := k) (x := x) (by simpa using h)
    have e : cells2 (y :: r) = two y ++ cells2 r := by unfold cells2; exact List.flatMap_cons ..
    rw [e, List.getElem?_append_right (by show 2 ≤ _; omega), List.getElem?_append_right (by show 2 ≤ _; omega)]
    have h2 : (two y).length = 2 := rfl
    rw [h2, show (k + 1) * 2 - 2 = k * 2 by omega, show (k + 1) * 2 + 1 - 2 = k * 2 + 1 by omega]
    exact this
/-- From A on there lie these segments, from block base on. -/
def SegsN (base : Nat) (w : World) (A : Option Addr) (l : List (Nat × Nat)) : Prop :=
  ∀ (j : Nat) (x : Nat × Nat), l[j]? = some x → ∃ b off, A = some ⟨b, off, none⟩ ∧ base ≤ b ∧ b < w.heap.size ∧ w.cell? ⟨b, off + j * 2, none⟩ = some (.int .i64 x.1) ∧ w.cell? ⟨b, off + j * 2 + 1, none⟩ = some (.int .i64 x.2)
theorem SegsN.kept {base : Nat} {w w' : World} {A : Option Addr} {l : List (Nat × Nat)} (h : SegsN base w A l) (hs : w.heap.size ≤ w'.heap.size) (hk : ∀ k, base ≤ k → k < w.heap.size → (∀ a, A = some a → a.block = k) → w'.heap[k]? = w.heap[k]?) : SegsN base w' A l := fun j x hj => by
  obtain ⟨b, off, e, hle, hlt, h1, h2⟩ := h j x hj
  have hb := hk b hle hlt (fun a ha => by rw [e] at ha; injection ha with ha; rw [← ha])
  exact ⟨b, off, e, hle, Nat.lt_of_lt_of_le hlt hs, (World.cell?_of_block (a := ⟨b, off + j * 2, none⟩) hb).trans h1, (World.cell?_of_block (a := ⟨b, off + j * 2 + 1, none⟩) hb).trans h2⟩
theorem SegsN.below {base : Nat} {w w' : World} {A : Option Addr} {l : List (Nat × Nat)} (h : SegsN base w A l) (hb : Below w.heap.size w w') : SegsN base w' A l := h.kept hb.size fun k _ hk _ => hb.block k hk
theorem SegsN.mono {base base' : Nat} {w : World} {A : Option Addr} {l : List (Nat × Nat)} (h : SegsN base w A l) (hb : base' ≤ base) : SegsN base' w A l := fun j x hj => by
  obtain ⟨b, off, e, hle, r⟩ := h j x hj
  exact ⟨b, off, e, Nat.le_trans hb hle, r⟩
theorem segs_own {w : World} {base : Nat} {v : Value} {l : List (Nat × Nat)} {n : Nat} (h : w.ownsRow base 80 2 v n (cells2 l)) (hn : l.length = n) : ∃ A c, v = .slice A n c ∧ n ≤ c ∧ SegsN base w A l := by
  rcases h.2 with ⟨e, h0⟩ | ⟨g, cap, cur, e, hg, hh, q1, q2, q3, q4⟩
  · have : l = [] := List.eq_nil_of_length_eq_zero (by omega)
    subst this
    have hn0 : n = 0 := hn.symm
    subst hn0
    exact ⟨none, 0, e, Nat.le_refl _, fun j x hj => by simp at hj⟩
  · refine ⟨some ⟨g, 0, none⟩, cap, e, q1, fun k x hk => ?_⟩
    obtain ⟨h0, h1⟩ := cells2_of hk
    have hl : k < l.length := by
      rcases Nat.lt_or_ge k l.length with h1 | h1
      · exact h1
      · rw [List.getElem?_eq_none h1] at hk; cases hk
    rw [← q4, List.getElem?_take_of_lt (by omega), Array.getElem?_toList] at h0 h1
    refine ⟨g, 0, rfl, hg, (Array.getElem?_eq_some_iff.1 hh).1, ?_, ?_⟩
    · rw [cell_of_row w g _ cur _ (0, 0) hh, Nat.zero_add]; exact h0
    · rw [cell_of_row w g _ cur _ (0, 0) hh, Nat.zero_add]; exact h1
/-- The segments of these names. -/
def segsL (ns : List ByteArray) : List (Nat × Nat) := (ns.map segOf).filter fun x => decide (x.1 ≠ 0)
theorem segsL_snoc (ns : List ByteArray) (s : ByteArray) : segsL (ns ++ [s]) = segsL ns ++ if (segOf s).1 ≠ 0 then [segOf s] else [] := by
  unfold segsL
  rw [List.map_append, List.filter_append]
  by_cases h : (segOf s).1 = 0 <;> simp [h]
theorem segsL_take {ns : List ByteArray} {k : Nat} {s : ByteArray} (h : ns[k]? = some s) : segsL (ns.take (k + 1)) = segsL (ns.take k) ++ if (segOf s).1 ≠ 0 then [segOf s] else [] := by
  rw [List.take_add_one, h]; exact segsL_snoc _ _
theorem segsL_len (ns : List ByteArray) : (segsL ns).length ≤ ns.length := by
  unfold segsL
  refine Nat.le_trans (List.length_filter_le _ _) ?_
  rw [List.length_map]; exact Nat.le_refl _
theorem cell_two_new' (w : World) (a b : Value) (t : TypeId) (n : Nat) (hn : n = w.heap.size) : ∀ j u, [a, b][j]? = some u → (w.alloc (.cells #[a, b] t)).cell? ((⟨n, 0, none⟩ : Addr).add j) = some u := by
  subst hn; exact cell_two_new w a b t
/-- What segments answers. -/
def SegsP (w : World) (l : List Fl) (e : Ending) (w' : World) : Prop := ∃ A c, e = .returned (.slice A (segsL (nms l)).length c) ∧ (segsL (nms l)).length ≤ c ∧ SegsN w.heap.size w' A (segsL (nms l)) ∧ Below w.heap.size w w'
set_option maxRecDepth 100000 in
set_option maxHeartbeats 1000000 in
theorem segments_any {X : Nat → Prop} {p : Nat} {d : DS} {w : World} (h : Dq X w p d) (hln : d.l.length ≤ 100) : Calls Tryz.prog 38 #[.pointer (some ⟨p, 0, none⟩)] w (SegsP w d.l) := by
  obtain ⟨i0, hi, hz0, hz1, hz2⟩ := info_parts Tryz.info80
  have hok := h.ok
  have hnm := hide (names_q h (by omega))
  have hsz := hide (fun x (hx : x ∈ d.l) => (name_size (hok.nm x hx)).2)
  unfold SegsP
  have hnl : (nms d.l).length = d.l.length := length_nms d.l
  clear h hok
  unfold NamesP at hnm
  have hsn := hide (show ∀ (k : Nat) s, (nms d.l)[k]? = some s → s.size ≤ 140737488351232 from fun k s hk => by
    have := List.mem_of_getElem? hk
    unfold nms at this
    obtain ⟨x, hx, rfl⟩ := List.mem_map.1 this
    have := hsz.out x hx
    omega)
  clear hsz
  generalize nms d.l = ns at *
  rw [← hnl] at hnm hln
  clear hnl
  have hnm2 := hnm.out
  clear hnm
  have hnm := hide hnm2
  clear hnm2
  go_enter Tryz.func38, Tryz.ntmps38
  go_wp2_with (go_at_call 37; (with_reducible refine hnm.out.mono ?_); rintro e w1 ⟨A, c, rfl, hc, hst, b1, -⟩; have hst := hide hst; have b1 := hide b1)
  go_loopw [3, 11] (fun l i wr => ∃ k : Nat, k ≤ ns.length ∧ i = .int .i64 k ∧ Hid (wr.ownsRow w1.heap.size 80 2 l (segsL (ns.take k)).length (cells2 (segsL (ns.take k)))) ∧ Hid (Below w1.heap.size w1 wr)) (fun _ i _ => ns.length - (intOf i).toNat)
  case atStart => exact ⟨0, by omega, rfl, World.ownsRow_nil _ _ _ _, Below.refl _ _⟩
  case round =>
    obtain ⟨k, hk, rfl, hown, hb⟩ := hrel
    by_cases hlt : k < ns.length
    · obtain ⟨s, hs⟩ : ∃ s, ns[k]? = some s := ⟨ns[k], List.getElem?_eq_getElem hlt⟩
      obtain ⟨B, off, rfl, hBl, hcell⟩ := (hst.out.below hb.out).at_ hs
      have hnd := hide (fun w => named_any s w (hsn.out k s hs))
      have hstep := hide (segsL_take hs)
      have hlen := segsL_len (ns.take k)
      rw [List.length_take] at hlen
      have hsz1 := b1.out.size
      have hsz2 := hb.out.size
      unfold NamedP at hnd
      generalize hso : segOf s = y at *
      obtain ⟨y1, y2⟩ := y
      clear hso
      by_cases hy : y1 = 0
      · have hy' : decide (y1 ≠ 0) = false := by simpa using hy
        rw [if_neg (by simpa using hy), List.append_nil] at hstep
        simp only [hy'] at hnd
        have hnd := hide hnd.out
        clear hy hy'
        go_wp2_with (go_at_call 73; (with_reducible refine (hnd.out _).mono ?_); rintro e w2 ⟨rfl, k2⟩; have k2 := hide k2)
        go_roundw
        case rel => exact ⟨k + 1, by omega, by go_num, by rw [hstep.out]; exact (own_below hown.out k2.out).alloc _, kept_alloc (kept_trans hb.out k2.out) _⟩
        case measure => simp [intOf]; omega
      · have hy' : decide (y1 ≠ 0) = true := by simpa using hy
        rw [if_pos (by simpa using hy)] at hstep
        simp only [hy'] at hnd
        have hnd := hide hnd.out
        clear hy hy'
        generalize hM : segsL (ns.take k) = M at *
        clear hM
        go_wp2_with (first
          | (go_at_call 73; (with_reducible refine (hnd.out _).mono ?_); rintro e w2 ⟨rfl, k2⟩; have hs3 := k2.size; have k2 := hide k2; have ho2 := hide (((own_below hown.out k2.out).alloc (.cells #[Value.int .i64 y1, Value.int .i64 y2] 80)).alloc (.cells #[Value.int .i64 y1, Value.int .i64 y2] 80)))
          | (at_builtin; refine wpList_append_own_at _ rfl (.tmp 21) (.tmp 23) 77 rfl w1.heap.size 80 i0 (.agg #[.int .i64 0, .int .i64 0]) 2 16 Tryz.underlying77 hi hz0 hz1 hz2 rfl (by omega) _ M.length (cells2 M) rfl ho2.out ⟨w2.heap.size + 1, 0, none⟩ 1 1 [.int .i64 y1, .int .i64 y2] rfl rfl (cell_two_new' _ _ _ _ _ (by simp)) (by simp [Value.oneCell']) (by unfold maxLen; omega) (by omega) (by simp; omega) ?_))
        intro v4 w4 o4 g4 _ _
        have B4 := hide ((((kept_trans hb.out k2.out).alloc (by omega) _).alloc (by simp; omega) _).grown g4 (by simp; omega) (fun k hk => (ho2.out.lt k hk).1))
        have o4 := hide o4
        clear g4 ho2 hown hb k2
        go_wp2
        go_roundw
        case rel => exact ⟨k + 1, by omega, by go_num, by rw [hstep.out, List.length_append, cells2_append]; exact o4.out, B4.out⟩
        case measure => simp [intOf]; omega
    · have hk' : k = ns.length := by omega
      subst hk'
      rw [List.take_length] at hown
      obtain ⟨A', c', rfl, h1, h2⟩ := segs_own hown.out rfl
      have h2 := hide h2
      have B5 := hide (kept_trans b1.out hb.out)
      clear hown hst hb
      go_wp2
      go_ret
      exact ⟨A', c', rfl, h1, h2.out.mono b1.out.size, B5.out⟩
end Go.Proofs.YtkmcnhjfnjikaaaGreatDoor
