/- What package frame's Scan and the document's come to. Conditions: the slice lies in memory and holds bytes; it has less than some 10^12 of them (beyond some 10^14 the list of the payloads finds no room). -/
import Derived.Test.YtdmfblobmahfbaaRnx
import Derived.LoopTactic
import Derived.Deep.DeepCutAuto
namespace Go.Proofs.Ytdmfblobmahfbaa
open Go.RowKit
theorem Try.info22 : (Try.prog.info? 22).map (fun i => (i.zero, i.size, i.bytes)) = some (some (.slice none 0 0), 1, 24) := by kernel_rfl
/-- From A on there lie slices of these lists of bytes. -/
def PartsL (w : World) (A : Option Addr) (L : List (List Int)) : Prop :=
  ∀ (j : Nat) (p : List Int), L[j]? = some p → ∃ b off, A = some ⟨b, off, none⟩ ∧ b < w.heap.size ∧ ∃ A' c', w.cell? ⟨b, off + j, none⟩ = some (.slice A' p.length c') ∧ Lies w A' p
theorem PartsL.below {w w' : World} {A : Option Addr} {L : List (List Int)} (h : PartsL w A L) (hb : Below w.heap.size w w') : PartsL w' A L := fun j p hj => by
  obtain ⟨b, off, e, hlt, A', c', hc, hl⟩ := h j p hj
  exact ⟨b, off, e, Nat.lt_of_lt_of_le hlt hb.size, A', c', (hb.cell (p := ⟨b, off + j, none⟩) hlt).trans hc, hl.below hb⟩
theorem PartsL.drewN {w : World} {A : Option Addr} {L : List (List Int)} (h : PartsL w A L) (n : Nat) : PartsL (w.drewN n) A L := h
theorem PartsL.take {w : World} {A : Option Addr} {L : List (List Int)} (h : PartsL w A L) (n : Nat) : PartsL w A (L.take n) := fun j p hj => h j p (by
  rw [List.getElem?_take] at hj
  split at hj
  · exact hj
  · cases hj)
/-- A call's own row of slices of these lists, none of which lies in the row's own block. -/
structure Grow (base : Nat) (w : World) (v : Value) (L : List (List Int)) : Prop where
  own : ∃ vs : List Value, w.ownsRow base 22 1 v L.length vs ∧ ∀ (j : Nat) (p : List Int), L[j]? = some p → ∃ A' c', vs[j]? = some (Value.slice A' p.length c') ∧ Lies w A' p ∧ ∀ a, A' = some a → some a.block ≠ v.ownBlock ∧ a.block < w.heap.size
theorem Grow.nil (w : World) (base : Nat) : Grow base w (.slice none 0 0) [] := ⟨[], World.ownsRow_nil _ _ _ _, fun j p hj => by simp at hj⟩
theorem Grow.below {base : Nat} {w w' : World} {v : Value} {L : List (List Int)} (h : Grow base w v L) (hb : Below w.heap.size w w') : Grow base w' v L := by
  obtain ⟨vs, ho, hl⟩ := h.own
  refine ⟨vs, own_below ho hb, fun j p hj => ?_⟩
  obtain ⟨A', c', e, hz, hne⟩ := hl j p hj
  exact ⟨A', c', e, hz.below hb, fun a ha => ⟨(hne a ha).1, Nat.lt_of_lt_of_le (hne a ha).2 hb.size⟩⟩
theorem Grow.lt {base : Nat} {w : World} {v : Value} {L : List (List Int)} (h : Grow base w v L) : ∀ k, v.ownBlock = some k → base ≤ k ∧ k < w.heap.size := by
  obtain ⟨vs, ho, _⟩ := h.own
  exact ho.lt
/-- One more. -/
theorem Grow.more {base : Nat} {w w' : World} {v v' : Value} {vs : List Value} {L : List (List Int)} {p : List Int} {A : Option Addr} {c : Nat} (hp : Lies w A p) (hpa : ∀ a, A = some a → some a.block ≠ v.ownBlock ∧ a.block < w.heap.size)
    (hl : ∀ (j : Nat) (p : List Int), L[j]? = some p → ∃ A' c', vs[j]? = some (Value.slice A' p.length c') ∧ Lies w A' p ∧ ∀ a, A' = some a → some a.block ≠ v.ownBlock ∧ a.block < w.heap.size) (hvl : vs.length = L.length)
    (ho : w'.ownsRow base 22 1 v' (L.length + 1) (vs ++ [.slice A p.length c])) (hg : w.grownBy w' v.ownBlock) (hat : v'.ownBlock = v.ownBlock ∨ v'.ownBlock = some w.heap.size) : Grow base w' v' (L ++ [p]) := by
  refine ⟨vs ++ [.slice A p.length c], by rw [List.length_append]; exact ho, fun j q hj => ?_⟩
  have far : ∀ {A' : Option Addr}, (∀ a, A' = some a → some a.block ≠ v.ownBlock ∧ a.block < w.heap.size) → ∀ a, A' = some a → some a.block ≠ v'.ownBlock ∧ a.block < w'.heap.size := fun h a ha =>
    ⟨own_still (fun a ha => (h a ha).1) (fun a ha => (h a ha).2) hat a ha, Nat.lt_of_lt_of_le (h a ha).2 hg.size⟩
  by_cases hlt : j < L.length
  · rw [List.getElem?_append_left hlt] at hj
    obtain ⟨A', c', e, hz, hne⟩ := hl j q hj
    exact ⟨A', c', by rw [List.getElem?_append_left (by omega)]; exact e, hz.grown hg (fun a ha => (hne a ha).1), far hne⟩
  · have hj0 : j = L.length := by
      rcases Nat.lt_or_ge j (L ++ [p]).length with h1 | h1
      · rw [List.length_append] at h1; simp at h1; omega
      · rw [List.getElem?_eq_none h1] at hj; cases hj
    subst hj0
    rw [List.getElem?_append_right (Nat.le_refl _), Nat.sub_self] at hj
    simp at hj
    subst hj
    exact ⟨A, c, by rw [List.getElem?_append_right (by omega)]; simp [hvl], hp.grown hg (fun a ha => (hpa a ha).1), far hpa⟩
/-- Where the row lies. -/
theorem Grow.parts {base : Nat} {w : World} {v : Value} {L : List (List Int)} (h : Grow base w v L) : ∃ A c, v = .slice A L.length c ∧ L.length ≤ c ∧ (A = none → c = 0) ∧ PartsL w A L := by
  obtain ⟨vs, ho, hl⟩ := h.own
  rcases ho.2 with ⟨rfl, hx⟩ | ⟨g, cap, cur, rfl, hb, hh, hnc, _⟩
  · have h0 : L.length = 0 := by have := ho.1; rw [hx] at this; simp at this; omega
    have h1 : L = [] := List.eq_nil_of_length_eq_zero h0
    subst h1
    exact ⟨none, 0, rfl, Nat.le_refl _, fun _ => rfl, fun j p hj => by simp at hj⟩
  · refine ⟨some ⟨g, 0, none⟩, cap, rfl, hnc, fun h => (by cases h), fun j p hj => ?_⟩
    have hjl : j < L.length := by
      rcases Nat.lt_or_ge j L.length with h1 | h1
      · exact h1
      · rw [List.getElem?_eq_none h1] at hj; cases hj
    obtain ⟨A', c', e, hz, _⟩ := hl j p hj
    refine ⟨g, 0, rfl, ?_, A', c', ?_, hz⟩
    · rcases Nat.lt_or_ge g w.heap.size with h1 | h1
      · exact h1
      · rw [Array.getElem?_eq_none h1] at hh; cases hh
    · rw [Nat.zero_add, ho.cellAt j (by omega)]; exact e
theorem plc_ge {zs : List Int} : ∀ J, (∀ j, j < J → nxE (zs.drop (plc zs j)) = 0) → 7 * J ≤ plc zs J
  | 0, _ => Nat.zero_le _
  | J + 1, h => by
    have h1 := plc_ge J fun j hj => h j (by omega)
    have h2 := (nxE_ok (h J (by omega))).2.1.1
    show 7 * (J + 1) ≤ plc zs J + nxN (zs.drop (plc zs J)) + 6
    omega
/-- What Scan answers. -/
def Scanned (w : World) (zs : List Int) (e : Ending) (w' : World) : Prop :=
  ∃ J A' c', Upto zs J ∧ e = .returned (.tuple #[.slice A' J c', .int .i64 ((plc zs J : Nat) : Int)]) ∧ J ≤ c' ∧ PartsL w' A' (pays zs J) ∧ Below w.heap.size w w'
/-- A frame is found. -/
def Found (w : World) (zs : List Int) (J : Nat) (e : Ending) (w' : World) : Prop :=
  ∃ A' c', e = .returned (.tuple #[.slice A' (nxP (zs.drop (plc zs J))).length c', .int .i64 ((plc zs (J + 1) : Nat) : Int), .int .i64 0]) ∧
    w'.ownsRow w.heap.size 5 1 (.slice A' (nxP (zs.drop (plc zs J))).length c') (nxP (zs.drop (plc zs J))).length (cellsOf (nxP (zs.drop (plc zs J)))) ∧ Below w.heap.size w w'
/-- None is. -/
def Ended (w : World) (E : Int) (e : Ending) (w' : World) : Prop := (∃ A' c', e = .returned (.tuple #[.slice A' 0 c', .int .i64 0, .int .i64 E])) ∧ Below w.heap.size w w'
theorem Nexted.found {w w' : World} {zs : List Int} {J : Nat} {e : Ending} (hp : plc zs J ≤ zs.length) (h : nxE (zs.drop (plc zs J)) = 0) (g : Nexted w zs ((plc zs J : Nat) : Int) e w') : Found w zs J e w' := by
  have hE := nextE_at (zs := zs) hp
  rw [h] at hE
  have h1 : nextP zs ((plc zs J : Nat) : Int) = nxP (zs.drop (plc zs J)) := by unfold nextP; rw [if_pos hE, Int.toNat_natCast]
  have h2 : nextT zs ((plc zs J : Nat) : Int) = ((plc zs (J + 1) : Nat) : Int) := by
    unfold nextT; rw [if_pos hE, Int.toNat_natCast]
    show _ = ((plc zs J + nxN (zs.drop (plc zs J)) + 6 : Nat) : Int)
    omega
  unfold Nexted at g
  rw [h1, h2, hE] at g
  exact g
theorem Nexted.ended {w w' : World} {zs : List Int} {J : Nat} {e : Ending} (hp : plc zs J ≤ zs.length) (h : nxE (zs.drop (plc zs J)) ≠ 0) (g : Nexted w zs ((plc zs J : Nat) : Int) e w') : Ended w (nxE (zs.drop (plc zs J))) e w' := by
  have hE := nextE_at (zs := zs) hp
  have h1 : nextP zs ((plc zs J : Nat) : Int) = [] := by unfold nextP; rw [hE, if_neg h]
  have h2 : nextT zs ((plc zs J : Nat) : Int) = 0 := by unfold nextT; rw [hE, if_neg h]
  unfold Nexted at g
  rw [h1, h2, hE] at g
  obtain ⟨A', c', he, _, hb⟩ := g
  exact ⟨⟨A', c', he⟩, hb⟩
set_option maxHeartbeats 1000000 in
theorem fscan_any (A : Option Addr) (n c : Nat) (zs : List Int) (w : World) (hn : zs.length = n) (hz : Lies w A zs) (hc : n ≤ c) (ho : Octets zs) (ln : n ≤ 1000000000000) :
    Calls Try.prog 12 #[.slice A n c] w (Scanned w zs) := by
  obtain ⟨i0, hi, hz0, hz1, hz2⟩ := info_parts Try.info22
  have hnx := hide (fun (wr : World) (hb : Below w.heap.size w wr) (p : Nat) (hp : p ≤ n) => fnext_any A n c zs (p : Int) wr hn (hz.below hb) hc ho (by omega) (by omega))
  clear hz ho
  go_enter Try.func12, Try.ntmps12
  go_wp2
  go_loopw [4, 5] (fun l at_ wr => ∃ J : Nat, Hid (∀ j, j < J → nxE (zs.drop (plc zs j)) = 0) ∧ at_ = .int .i64 ((plc zs J : Nat) : Int) ∧ Hid (Grow w.heap.size wr l (pays zs J)) ∧ Hid (Below w.heap.size w wr)) (fun _ at_ _ => n - (intOf at_).toNat)
  case atStart => exact ⟨0, fun j hj => absurd hj (by omega), rfl, Grow.nil _ _, Below.refl _ _⟩
  case round =>
    obtain ⟨J, hJ, rfl, hgr, hb⟩ := hrel
    have hp0 := plc_le J hJ.out
    have hp1 := plc_ge J hJ.out
    have hlp := length_pays zs J
    by_cases hE : nxE (zs.drop (plc zs J)) = 0
    · have hf := hide ((hnx.out wr hb.out (plc zs J) (by omega)).mono fun _ _ g => g.found hp0 hE)
      have hgt : plc zs J < plc zs (J + 1) := by show _ < plc zs J + nxN (zs.drop (plc zs J)) + 6; omega
      have hle : plc zs (J + 1) ≤ n := by
        have := plc_le (zs := zs) (J + 1) (fun j hj => by
          by_cases h : j < J
          · exact hJ.out j h
          · obtain rfl : j = J := by omega
            exact hE)
        omega
      have hJ1 := hide (show ∀ j, j < J + 1 → nxE (zs.drop (plc zs j)) = 0 from fun j hj => by
        by_cases h : j < J
        · exact hJ.out j h
        · obtain rfl : j = J := by omega
          exact hE)
      have hpay := hide (show pays zs (J + 1) = pays zs J ++ [nxP (zs.drop (plc zs J))] from rfl)
      unfold Found at hf
      generalize nxP (zs.drop (plc zs J)) = pl at *
      obtain ⟨q, HQ⟩ : ∃ q, plc zs (J + 1) = q := ⟨_, rfl⟩
      rw [HQ] at hgt hle hf
      have HQ := hide (show Value.int .i64 ((q : Nat) : Int) = .int .i64 ((plc zs (J + 1) : Nat) : Int) by rw [HQ])
      generalize plc zs J = p at *
      clear hE hJ
      generalize pays zs J = L at *
      go_wp2_with (first
        | (go_at_call 9; (with_reducible refine hf.out.mono ?_); rintro e w1 ⟨A1, c1, rfl, o1, k1⟩; obtain ⟨vs, hvs, hvl⟩ := (hgr.out.below k1).own; have hvn := hvs.1; have hvs := hide (hvs.alloc (.cells #[.slice A1 pl.length c1] 22)); have hvl := hide hvl; have hbs := k1.size; have hbs2 := hb.out.size; have o1' := hide o1; have k1' := hide k1; clear o1 k1)
        | (at_builtin; refine wpList_append_own_at _ rfl (.tmp 20) (.tmp 22) 31 rfl w.heap.size 22 i0 (.slice none 0 0) 1 24 Try.underlying31 hi hz0 hz1 hz2 rfl (by omega) _ L.length vs rfl hvs.out ⟨w1.heap.size, 0, none⟩ 1 1 [.slice A1 pl.length c1] rfl rfl (cell_one_new _ _ _) (by intro u hu; rw [List.mem_singleton] at hu; subst hu; rfl) (by unfold maxLen; omega) (by omega) (by simp; omega) ?_))
      intro v2 w2 o2 g2 _ at2
      have hb1 := hb.out.trans (k1'.out.mono hbs2)
      have hb2 := (hb1.alloc (by omega) (.cells #[.slice A1 pl.length c1] 22)).grown g2 (by simp; omega) (fun k hk => (hvs.out.lt k hk).1)
      have hmore := Grow.more (w := w1.alloc (.cells #[.slice A1 pl.length c1] 22)) ((Lies.of_own o1'.out).alloc _) (fun a ha => ⟨own_other hgr.out.own.choose_spec.1 o1'.out a ha, by have := own_lt o1'.out a ha; simp; omega⟩)
        (fun j r hj => by
          obtain ⟨A', c', h1, h2, h3⟩ := hvl.out j r hj
          exact ⟨A', c', h1, h2.alloc _, fun a ha => ⟨(h3 a ha).1, by have := (h3 a ha).2; simp; omega⟩⟩) (by omega) (by rw [hlp]; exact o2) g2 (at2.imp id (fun h => by rw [h]; simp))
      rw [← hpay.out] at hmore
      have hmore := hide hmore
      have hb2 := hide hb2
      clear o2 g2 at2 hvl hvs hgr hb1 hf hnx hb k1' o1'
      go_wp2
      go_roundw
      case rel => exact ⟨J + 1, hJ1, HQ.out, hmore, hb2⟩
      case measure => simp [intOf]; omega
    · have hf := hide ((hnx.out wr hb.out (plc zs J) (by omega)).mono fun _ _ g => g.ended hp0 hE)
      have hne : (nxE (zs.drop (plc zs J)) != 0) = true := by simpa using hE
      have hU : Hid (Upto zs J) := ⟨hJ.out, hE⟩
      unfold Ended at hf
      generalize nxE (zs.drop (plc zs J)) = E at *
      clear hE hJ
      have hres := hide (fun (w' : World) (A' : Option Addr) (c' : Nat) (h : J ≤ c') (hp : PartsL w' A' (pays zs J)) (hb : Below w.heap.size w w') => show Scanned w zs (.returned (.tuple #[.slice A' J c', .int .i64 ((plc zs J : Nat) : Int)])) w' from ⟨J, A', c', hU.out, rfl, h, hp, hb⟩)
      generalize plc zs J = p at *
      go_wp2_with (first
        | (go_at_call 9; (with_reducible refine hf.out.mono ?_); rintro e w1 ⟨⟨A1, c1, rfl⟩, k1⟩; have k1' := hide k1; clear k1))
      obtain ⟨A2, c2, hv, hle, _, hparts⟩ := (hgr.out.below k1'.out).parts
      rw [hlp] at hv hle
      go_ret2
      rw [hv]
      exact hres.out w1 A2 c2 hle hparts (hb.out.trans (k1'.out.mono hb.out.size))
set_option maxHeartbeats 1000000 in
theorem rscan_any (A : Option Addr) (n c : Nat) (zs : List Int) (w : World) (hn : zs.length = n) (hz : Lies w A zs) (hc : n ≤ c) (ho : Octets zs) (ln : n ≤ 1000000000000) :
    Calls Try.prog 13 #[.slice A n c] w (Scanned w zs) := by
  obtain ⟨i0, hi, hz0, hz1, hz2⟩ := info_parts Try.info22
  have hnx := hide (fun (wr : World) (hb : Below w.heap.size w wr) (p : Nat) (hp : p ≤ n) => rnext_any A n c zs (p : Int) wr hn (hz.below hb) hc ho (by omega) (by omega))
  clear hz ho
  go_enter Try.func13, Try.ntmps13
  go_wp2
  go_loopw [4, 5] (fun l at_ wr => ∃ J : Nat, Hid (∀ j, j < J → nxE (zs.drop (plc zs j)) = 0) ∧ at_ = .int .i64 ((plc zs J : Nat) : Int) ∧ Hid (Grow w.heap.size wr l (pays zs J)) ∧ Hid (Below w.heap.size w wr)) (fun _ at_ _ => n - (intOf at_).toNat)
  case atStart => exact ⟨0, fun j hj => absurd hj (by omega), rfl, Grow.nil _ _, Below.refl _ _⟩
  case round =>
    obtain ⟨J, hJ, rfl, hgr, hb⟩ := hrel
    have hp0 := plc_le J hJ.out
    have hp1 := plc_ge J hJ.out
    have hlp := length_pays zs J
    by_cases hE : nxE (zs.drop (plc zs J)) = 0
    · have hf := hide ((hnx.out wr hb.out (plc zs J) (by omega)).mono fun _ _ g => g.found hp0 hE)
      have hgt : plc zs J < plc zs (J + 1) := by show _ < plc zs J + nxN (zs.drop (plc zs J)) + 6; omega
      have hle : plc zs (J + 1) ≤ n := by
        have := plc_le (zs := zs) (J + 1) (fun j hj => by
          by_cases h : j < J
          · exact hJ.out j h
          · obtain rfl : j = J := by omega
            exact hE)
        omega
      have hJ1 := hide (show ∀ j, j < J + 1 → nxE (zs.drop (plc zs j)) = 0 from fun j hj => by
        by_cases h : j < J
        · exact hJ.out j h
        · obtain rfl : j = J := by omega
          exact hE)
      have hpay := hide (show pays zs (J + 1) = pays zs J ++ [nxP (zs.drop (plc zs J))] from rfl)
      unfold Found at hf
      generalize nxP (zs.drop (plc zs J)) = pl at *
      obtain ⟨q, HQ⟩ : ∃ q, plc zs (J + 1) = q := ⟨_, rfl⟩
      rw [HQ] at hgt hle hf
      have HQ := hide (show Value.int .i64 ((q : Nat) : Int) = .int .i64 ((plc zs (J + 1) : Nat) : Int) by rw [HQ])
      generalize plc zs J = p at *
      clear hE hJ
      generalize pays zs J = L at *
      go_wp2_with (first
        | (go_at_call 11; (with_reducible refine hf.out.mono ?_); rintro e w1 ⟨A1, c1, rfl, o1, k1⟩; obtain ⟨vs, hvs, hvl⟩ := (hgr.out.below k1).own; have hvn := hvs.1; have hvs := hide (hvs.alloc (.cells #[.slice A1 pl.length c1] 22)); have hvl := hide hvl; have hbs := k1.size; have hbs2 := hb.out.size; have o1' := hide o1; have k1' := hide k1; clear o1 k1)
        | (at_builtin; refine wpList_append_own_at _ rfl (.tmp 20) (.tmp 22) 31 rfl w.heap.size 22 i0 (.slice none 0 0) 1 24 Try.underlying31 hi hz0 hz1 hz2 rfl (by omega) _ L.length vs rfl hvs.out ⟨w1.heap.size, 0, none⟩ 1 1 [.slice A1 pl.length c1] rfl rfl (cell_one_new _ _ _) (by intro u hu; rw [List.mem_singleton] at hu; subst hu; rfl) (by unfold maxLen; omega) (by omega) (by simp; omega) ?_))
      intro v2 w2 o2 g2 _ at2
      have hb1 := hb.out.trans (k1'.out.mono hbs2)
      have hb2 := (hb1.alloc (by omega) (.cells #[.slice A1 pl.length c1] 22)).grown g2 (by simp; omega) (fun k hk => (hvs.out.lt k hk).1)
      have hmore := Grow.more (w := w1.alloc (.cells #[.slice A1 pl.length c1] 22)) ((Lies.of_own o1'.out).alloc _) (fun a ha => ⟨own_other hgr.out.own.choose_spec.1 o1'.out a ha, by have := own_lt o1'.out a ha; simp; omega⟩)
        (fun j r hj => by
          obtain ⟨A', c', h1, h2, h3⟩ := hvl.out j r hj
          exact ⟨A', c', h1, h2.alloc _, fun a ha => ⟨(h3 a ha).1, by have := (h3 a ha).2; simp; omega⟩⟩) (by omega) (by rw [hlp]; exact o2) g2 (at2.imp id (fun h => by rw [h]; simp))
      rw [← hpay.out] at hmore
      have hmore := hide hmore
      have hb2 := hide hb2
      clear o2 g2 at2 hvl hvs hgr hb1 hf hnx hb k1' o1'
      go_wp2
      go_roundw
      case rel => exact ⟨J + 1, hJ1, HQ.out, hmore, hb2⟩
      case measure => simp [intOf]; omega
    · have hf := hide ((hnx.out wr hb.out (plc zs J) (by omega)).mono fun _ _ g => g.ended hp0 hE)
      have hne : (nxE (zs.drop (plc zs J)) != 0) = true := by simpa using hE
      have hU : Hid (Upto zs J) := ⟨hJ.out, hE⟩
      unfold Ended at hf
      generalize nxE (zs.drop (plc zs J)) = E at *
      clear hE hJ
      have hres := hide (fun (w' : World) (A' : Option Addr) (c' : Nat) (h : J ≤ c') (hp : PartsL w' A' (pays zs J)) (hb : Below w.heap.size w w') => show Scanned w zs (.returned (.tuple #[.slice A' J c', .int .i64 ((plc zs J : Nat) : Int)])) w' from ⟨J, A', c', hU.out, rfl, h, hp, hb⟩)
      generalize plc zs J = p at *
      go_wp2_with (first
        | (go_at_call 11; (with_reducible refine hf.out.mono ?_); rintro e w1 ⟨⟨A1, c1, rfl⟩, k1⟩; have k1' := hide k1; clear k1))
      obtain ⟨A2, c2, hv, hle, _, hparts⟩ := (hgr.out.below k1'.out).parts
      rw [hlp] at hv hle
      go_ret2
      rw [hv]
      exact hres.out w1 A2 c2 hle hparts (hb.out.trans (k1'.out.mono hb.out.size))
end Go.Proofs.Ytdmfblobmahfbaa
