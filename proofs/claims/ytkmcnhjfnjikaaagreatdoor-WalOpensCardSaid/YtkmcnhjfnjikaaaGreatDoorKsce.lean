/- What package frame's Scan and the document's come to. Conditions: the slice lies in memory and holds bytes; it has less than some 10^12 of them (beyond some 10^14 the list of the payloads finds no room). -/
import Derived.Test.YtkmcnhjfnjikaaaGreatDoorKfrb
import Derived.LoopTactic
import Derived.Deep.DeepCutAuto
import Derived.BigQuiet
import Derived.Deep.QuietTactic
namespace Go.Proofs.YtkmcnhjfnjikaaaGreatDoor
open Go.RowKit
theorem Tryz.info31 : (Tryz.prog.info? 31).map (fun i => (i.zero, i.size, i.bytes)) = some (some (.slice none 0 0), 1, 24) := by kernel_rfl
/-- In memory of the call's own, in another block than o. -/
def Far (base : Nat) (w : World) (o : Option Nat) (A : Option Addr) : Prop := ∀ a, A = some a → some a.block ≠ o ∧ a.block < w.heap.size ∧ base ≤ a.block
/-- A slice of these bytes. -/
structure El (w : World) (p : List Int) (A : Option Addr) (c : Nat) : Prop where
  lies : Lies w A p
  le : p.length ≤ c
  nil : A = none → c = 0
theorem El.below {w w' : World} {p : List Int} {A : Option Addr} {c : Nat} (h : El w p A c) (hb : Below w.heap.size w w') : El w' p A c := ⟨h.lies.below hb, h.le, h.nil⟩
theorem El.alloc {w : World} {p : List Int} {A : Option Addr} {c : Nat} (h : El w p A c) (o : Obj) : El (w.alloc o) p A c := ⟨h.lies.alloc o, h.le, h.nil⟩
theorem El.of_own {w : World} {p : List Int} {A : Option Addr} {c b : Nat} (h : w.ownsRow b 5 1 (.slice A p.length c) p.length (cellsOf p)) : El w p A c := ⟨Lies.of_own h, (own_len h).2, own_nil h⟩
/-- From A on there lie slices of these lists of bytes, all of it from block base on. -/
def PartsN (base : Nat) (w : World) (A : Option Addr) (L : List (List Int)) : Prop :=
  ∀ (j : Nat) (p : List Int), L[j]? = some p → ∃ b off, A = some ⟨b, off, none⟩ ∧ base ≤ b ∧ b < w.heap.size ∧ ∃ A' c', w.cell? ⟨b, off + j, none⟩ = some (.slice A' p.length c') ∧ El w p A' c' ∧ ∀ a, A' = some a → base ≤ a.block ∧ a.block < w.heap.size
theorem PartsN.below {base : Nat} {w w' : World} {A : Option Addr} {L : List (List Int)} (h : PartsN base w A L) (hb : Below w.heap.size w w') : PartsN base w' A L := fun j p hj => by
  obtain ⟨b, off, e, hle, hlt, A', c', hc, hl, hf⟩ := h j p hj
  exact ⟨b, off, e, hle, Nat.lt_of_lt_of_le hlt hb.size, A', c', (hb.cell (p := ⟨b, off + j, none⟩) hlt).trans hc, hl.below hb, fun a ha => ⟨(hf a ha).1, Nat.lt_of_lt_of_le (hf a ha).2 hb.size⟩⟩
theorem PartsN.mono {base base' : Nat} {w : World} {A : Option Addr} {L : List (List Int)} (h : PartsN base w A L) (hb : base' ≤ base) : PartsN base' w A L := fun j p hj => by
  obtain ⟨b, off, e, hle, hlt, A', c', hc, hl, hf⟩ := h j p hj
  exact ⟨b, off, e, Nat.le_trans hb hle, hlt, A', c', hc, hl, fun a ha => ⟨Nat.le_trans hb (hf a ha).1, (hf a ha).2⟩⟩
theorem PartsN.drop1 {base : Nat} {w : World} {b off : Nat} {p : List Int} {L : List (List Int)} (h : PartsN base w (some ⟨b, off, none⟩) (p :: L)) : PartsN base w (some ⟨b, off + 1, none⟩) L := fun j q hj => by
  obtain ⟨b', off', e, hle, hlt, A', c', hc, hl, hf⟩ := h (j + 1) q (by simpa using hj)
  injection e with e; injection e with e1 e2
  subst e1 e2
  exact ⟨b, off + 1, rfl, hle, hlt, A', c', by rw [show off + 1 + j = off + (j + 1) by omega]; exact hc, hl, hf⟩
/-- A call's own row of slices of these lists, none of which lies in the row's own block. -/
structure Grow (base : Nat) (w : World) (v : Value) (L : List (List Int)) : Prop where
  own : ∃ vs : List Value, w.ownsRow base 31 1 v L.length vs ∧ ∀ (j : Nat) (p : List Int), L[j]? = some p → ∃ A' c', vs[j]? = some (Value.slice A' p.length c') ∧ El w p A' c' ∧ Far base w v.ownBlock A'
theorem Grow.nil (w : World) (base : Nat) : Grow base w (.slice none 0 0) [] := ⟨[], World.ownsRow_nil _ _ _ _, fun j p hj => by simp at hj⟩
theorem Grow.below {base : Nat} {w w' : World} {v : Value} {L : List (List Int)} (h : Grow base w v L) (hb : Below w.heap.size w w') : Grow base w' v L := by
  obtain ⟨vs, ho, hl⟩ := h.own
  refine ⟨vs, own_below ho hb, fun j p hj => ?_⟩
  obtain ⟨A', c', e, hz, hne⟩ := hl j p hj
  exact ⟨A', c', e, hz.below hb, fun a ha => ⟨(hne a ha).1, Nat.lt_of_lt_of_le (hne a ha).2.1 hb.size, (hne a ha).2.2⟩⟩
theorem Grow.lt {base : Nat} {w : World} {v : Value} {L : List (List Int)} (h : Grow base w v L) : ∀ k, v.ownBlock = some k → base ≤ k ∧ k < w.heap.size := by
  obtain ⟨vs, ho, _⟩ := h.own
  exact ho.lt
/-- More. -/
theorem Grow.mores {base : Nat} {w w' : World} {v v' : Value} {vs us : List Value} {L M : List (List Int)}
    (hm : ∀ (j : Nat) (p : List Int), M[j]? = some p → ∃ A' c', us[j]? = some (Value.slice A' p.length c') ∧ El w p A' c' ∧ Far base w v.ownBlock A')
    (hl : ∀ (j : Nat) (p : List Int), L[j]? = some p → ∃ A' c', vs[j]? = some (Value.slice A' p.length c') ∧ El w p A' c' ∧ Far base w v.ownBlock A') (hvl : vs.length = L.length) (n : Nat) (hn : n = (L ++ M).length)
    (ho : w'.ownsRow base 31 1 v' n (vs ++ us)) (hg : w.grownBy w' v.ownBlock) (hat : v'.ownBlock = v.ownBlock ∨ v'.ownBlock = some w.heap.size) : Grow base w' v' (L ++ M) := by
  refine ⟨vs ++ us, by rw [← hn]; exact ho, fun j q hj => ?_⟩
  have far : ∀ {A' : Option Addr}, Far base w v.ownBlock A' → Far base w' v'.ownBlock A' := fun h a ha =>
    ⟨own_still (fun a ha => (h a ha).1) (fun a ha => (h a ha).2.1) hat a ha, Nat.lt_of_lt_of_le (h a ha).2.1 hg.size, (h a ha).2.2⟩
  by_cases hlt : j < L.length
  · rw [List.getElem?_append_left hlt] at hj
    obtain ⟨A', c', e, hz, hne⟩ := hl j q hj
    exact ⟨A', c', by rw [List.getElem?_append_left (by omega)]; exact e, ⟨hz.lies.grown hg (fun a ha => (hne a ha).1), hz.le, hz.nil⟩, far hne⟩
  · rw [List.getElem?_append_right (by omega)] at hj
    obtain ⟨A', c', e, hz, hne⟩ := hm _ q hj
    exact ⟨A', c', by rw [List.getElem?_append_right (by omega), hvl]; exact e, ⟨hz.lies.grown hg (fun a ha => (hne a ha).1), hz.le, hz.nil⟩, far hne⟩
/-- One more. -/
theorem Grow.more {base : Nat} {w w' : World} {v v' : Value} {vs : List Value} {L : List (List Int)} {p : List Int} {A : Option Addr} {c : Nat} (hp : El w p A c) (hpa : Far base w v.ownBlock A)
    (hl : ∀ (j : Nat) (p : List Int), L[j]? = some p → ∃ A' c', vs[j]? = some (Value.slice A' p.length c') ∧ El w p A' c' ∧ Far base w v.ownBlock A') (hvl : vs.length = L.length)
    (ho : w'.ownsRow base 31 1 v' (L.length + 1) (vs ++ [.slice A p.length c])) (hg : w.grownBy w' v.ownBlock) (hat : v'.ownBlock = v.ownBlock ∨ v'.ownBlock = some w.heap.size) : Grow base w' v' (L ++ [p]) :=
  Grow.mores (us := [.slice A p.length c]) (fun j q hj => by
    rcases j with _ | j
    · simp at hj; subst hj; exact ⟨A, c, rfl, hp, hpa⟩
    · simp at hj) hl hvl _ (by simp) ho hg hat
/-- Where the row lies. -/
theorem Grow.parts {base : Nat} {w : World} {v : Value} {L : List (List Int)} (h : Grow base w v L) : ∃ A c, v = .slice A L.length c ∧ L.length ≤ c ∧ (A = none → c = 0) ∧ (∀ a, A = some a → ∃ g, a = ⟨g, 0, none⟩) ∧ PartsN base w A L := by
  obtain ⟨vs, ho, hl⟩ := h.own
  rcases ho.2 with ⟨rfl, hx⟩ | ⟨g, cap, cur, rfl, hb, hh, hnc, _⟩
  · have h0 : L.length = 0 := by have := ho.1; rw [hx] at this; simp at this; omega
    have h1 : L = [] := List.eq_nil_of_length_eq_zero h0
    subst h1
    exact ⟨none, 0, rfl, Nat.le_refl _, fun _ => rfl, (fun a ha => by cases ha), fun j p hj => by simp at hj⟩
  · refine ⟨some ⟨g, 0, none⟩, cap, rfl, hnc, fun h => (by cases h), (fun a ha => ⟨g, by injection ha with ha; exact ha.symm⟩), fun j p hj => ?_⟩
    have hjl : j < L.length := by
      rcases Nat.lt_or_ge j L.length with h1 | h1
      · exact h1
      · rw [List.getElem?_eq_none h1] at hj; cases hj
    obtain ⟨A', c', e, hz, hf⟩ := hl j p hj
    refine ⟨g, 0, rfl, hb, ?_, A', c', ?_, hz, fun a ha => ⟨(hf a ha).2.2, (hf a ha).2.1⟩⟩
    · rcases Nat.lt_or_ge g w.heap.size with h1 | h1
      · exact h1
      · rw [Array.getElem?_eq_none h1] at hh; cases hh
    · rw [Nat.zero_add, ho.cellAt j (by omega)]; exact e
theorem plc_ge {zs : List Int} : ∀ J, (∀ j, j < J → nxE (zs.drop (plc zs j)) = 0) → 7 * J ≤ plc zs J
  | 0, _ => Nat.zero_le _
  | J + 1, h => by
    have h1 := plc_ge J fun j hj => h j (by omega)
    have h2 := (nxE_ok (h J (by omega))).2.1.1
    show 7 * (J + 1) ≤ plc zs J + nxN (zs.drop (plc zs J)) + 6
    omega
/-- What Scan answers. -/
def Scanned (w : World) (zs : List Int) (e : Ending) (w' : World) : Prop :=
  ∃ J A' c', Upto zs J ∧ e = .returned (.tuple #[.slice A' J c', .int .i64 ((plc zs J : Nat) : Int)]) ∧ J ≤ c' ∧ (A' = none → c' = 0) ∧ PartsN w.heap.size w' A' (pays zs J) ∧ Below w.heap.size w w'
/-- A frame is found. -/
def Found (w : World) (zs : List Int) (J : Nat) (e : Ending) (w' : World) : Prop :=
  ∃ A' c', e = .returned (.tuple #[.slice A' (nxP (zs.drop (plc zs J))).length c', .int .i64 ((plc zs (J + 1) : Nat) : Int), .int .i64 0]) ∧
    w'.ownsRow w.heap.size 5 1 (.slice A' (nxP (zs.drop (plc zs J))).length c') (nxP (zs.drop (plc zs J))).length (cellsOf (nxP (zs.drop (plc zs J)))) ∧ Below w.heap.size w w'
/-- None is. -/
def Ended (w : World) (E : Int) (e : Ending) (w' : World) : Prop := (∃ A' c', e = .returned (.tuple #[.slice A' 0 c', .int .i64 0, .int .i64 E])) ∧ Below w.heap.size w w'
theorem Nexted.found {w w' : World} {zs : List Int} {J : Nat} {e : Ending} (hp : plc zs J ≤ zs.length) (h : nxE (zs.drop (plc zs J)) = 0) (g : Nexted w zs ((plc zs J : Nat) : Int) e w') : Found w zs J e w' := by
  have hE := nextE_at (zs := zs) hp
  rw [h] at hE
  have h1 : nextP zs ((plc zs J : Nat) : Int) = nxP (zs.drop (plc zs J)) := by unfold nextP; rw [if_pos hE, Int.toNat_natCast]
  have h2 : nextU zs ((plc zs J : Nat) : Int) = ((plc zs (J + 1) : Nat) : Int) := by
    unfold nextU; rw [if_pos hE, Int.toNat_natCast]
    show _ = ((plc zs J + nxN (zs.drop (plc zs J)) + 6 : Nat) : Int)
    omega
  unfold Nexted at g
  rw [h1, h2, hE] at g
  exact g
theorem Nexted.ended {w w' : World} {zs : List Int} {J : Nat} {e : Ending} (hp : plc zs J ≤ zs.length) (h : nxE (zs.drop (plc zs J)) ≠ 0) (g : Nexted w zs ((plc zs J : Nat) : Int) e w') : Ended w (nxE (zs.drop (plc zs J))) e w' := by
  have hE := nextE_at (zs := zs) hp
  have h1 : nextP zs ((plc zs J : Nat) : Int) = [] := by unfold nextP; rw [hE, if_neg h]
  have h2 : nextU zs ((plc zs J : Nat) : Int) = 0 := by unfold nextU; rw [hE, if_neg h]
  unfold Nexted at g
  rw [h1, h2, hE] at g
  obtain ⟨A', c', he, _, hb⟩ := g
  exact ⟨⟨A', c', he⟩, hb⟩
set_option maxRecDepth 100000 in
set_option maxHeartbeats 1000000 in
theorem fscan_any (A : Option Addr) (n c : Nat) (zs : List Int) (w : World) (hn : zs.length = n) (hz : Lies w A zs) (hc : n ≤ c) (ho : Octets zs) (ln : n ≤ 1000000000000) :
    Calls Tryz.prog 105 #[.slice A n c] w (Scanned w zs) := by
  obtain ⟨i0, hi, hz0, hz1, hz2⟩ := info_parts Tryz.info31
  have hnx := hide (fun (wr : World) (hb : Below w.heap.size w wr) (p : Nat) (hp : p ≤ n) => fnext_any A n c zs (p : Int) wr hn (hz.below hb) hc ho (by omega) (by omega))
  clear hz ho
  go_enter Tryz.func105, Tryz.ntmps105
  go_wp2
  go_loopw [4, 5] (fun l at_ wr => ∃ J : Nat, Hid (∀ j, j < J → nxE (zs.drop (plc zs j)) = 0) ∧ at_ = .int .i64 ((plc zs J : Nat) : Int) ∧ Hid (Grow w.heap.size wr l (pays zs J)) ∧ Hid (Below w.heap.size w wr)) (fun _ at_ _ => n - (intOf at_).toNat)
  case atStart => exact ⟨0, fun j hj => absurd hj (by omega), rfl, Grow.nil _ _, Below.refl _ _⟩
  case round =>
    obtain ⟨J, hJ, rfl, hgr, hb⟩ := hrel
    have hp0 := plc_le J hJ.out
    have hp1 := plc_ge J hJ.out
    have hlp := length_pays zs J
    by_cases hE : nxE (zs.drop (plc zs J)) = 0
    · have hf := hide ((hnx.out wr hb.out (plc zs J) (by omega)).mono fun _ _ g => g.found hp0 hE)
      have hgt : plc zs J < plc zs (J + 1) := by show _ < plc zs J + nxN (zs.drop (plc zs J)) + 6; omega
      have hle : plc zs (J + 1) ≤ n := by
        have := plc_le (zs := zs) (J + 1) (fun j hj => by
          by_cases h : j < J
          · exact hJ.out j h
          · obtain rfl : j = J := by omega
            exact hE)
        omega
      have hJ1 := hide (show ∀ j, j < J + 1 → nxE (zs.drop (plc zs j)) = 0 from fun j hj => by
        by_cases h : j < J
        · exact hJ.out j h
        · obtain rfl : j = J := by omega
          exact hE)
      have hpay := hide (show pays zs (J + 1) = pays zs J ++ [nxP (zs.drop (plc zs J))] from rfl)
      unfold Found at hf
      generalize nxP (zs.drop (plc zs J)) = pl at *
      obtain ⟨q, HQ⟩ : ∃ q, plc zs (J + 1) = q := ⟨_, rfl⟩
      rw [HQ] at hgt hle hf
      have HQ := hide (show Value.int .i64 ((q : Nat) : Int) = .int .i64 ((plc zs (J + 1) : Nat) : Int) by rw [HQ])
      generalize plc zs J = p at *
      clear hE hJ
      generalize pays zs J = L at *
      go_wp2_with (first
        | (go_at_call 127; (with_reducible refine hf.out.mono ?_); rintro e w1 ⟨A1, c1, rfl, o1, k1⟩; obtain ⟨vs, hvs, hvl⟩ := (hgr.out.below k1).own; have hvn := hvs.1; have hvs := hide (hvs.alloc (.cells #[.slice A1 pl.length c1] 31)); have hvl := hide hvl; have hbs := k1.size; have hbs2 := hb.out.size; have o1' := hide o1; have k1' := hide k1; clear o1 k1)
        | (at_builtin; refine wpList_append_own_at _ rfl (.tmp 20) (.tmp 22) 27 rfl w.heap.size 31 i0 (.slice none 0 0) 1 24 Tryz.underlying27 hi hz0 hz1 hz2 rfl (by omega) _ L.length vs rfl hvs.out ⟨w1.heap.size, 0, none⟩ 1 1 [.slice A1 pl.length c1] rfl rfl (cell_one_new _ _ _) (by intro u hu; rw [List.mem_singleton] at hu; subst hu; rfl) (by unfold maxLen; omega) (by omega) (by simp; omega) ?_))
      intro v2 w2 o2 g2 _ at2
      have hb1 := hb.out.trans (k1'.out.mono hbs2)
      have hb2 := (hb1.alloc (by omega) (.cells #[.slice A1 pl.length c1] 31)).grown g2 (by simp; omega) (fun k hk => (hvs.out.lt k hk).1)
      have hmore := Grow.more (base := w.heap.size) (w := w1.alloc (.cells #[.slice A1 pl.length c1] 31)) ((El.of_own o1'.out).alloc _) (fun a ha => ⟨own_other hgr.out.own.choose_spec.1 o1'.out a ha, by have := own_lt o1'.out a ha; simp; omega, by have := own_ge o1'.out a ha; have := hb.out.size; omega⟩)
        (fun j r hj => by
          obtain ⟨A', c', h1, h2, h3⟩ := hvl.out j r hj
          exact ⟨A', c', h1, h2.alloc _, fun a ha => ⟨(h3 a ha).1, by have := (h3 a ha).2.1; simp; omega, (h3 a ha).2.2⟩⟩) (by omega) (by rw [hlp]; exact o2) g2 (at2.imp id (fun h => by rw [h]; simp))
      rw [← hpay.out] at hmore
      have hmore := hide hmore
      have hb2 := hide hb2
      clear o2 g2 at2 hvl hvs hgr hb1 hf hnx hb k1' o1'
      go_wp2
      go_roundw
      case rel => exact ⟨J + 1, hJ1, HQ.out, hmore, hb2⟩
      case measure => simp [intOf]; omega
    · have hf := hide ((hnx.out wr hb.out (plc zs J) (by omega)).mono fun _ _ g => g.ended hp0 hE)
      have hne : (nxE (zs.drop (plc zs J)) != 0) = true := by simpa using hE
      have hU : Hid (Upto zs J) := ⟨hJ.out, hE⟩
      unfold Ended at hf
      generalize nxE (zs.drop (plc zs J)) = E at *
      clear hE hJ
      have hres := hide (fun (w' : World) (A' : Option Addr) (c' : Nat) (h : J ≤ c') (hn : A' = none → c' = 0) (hp : PartsN w.heap.size w' A' (pays zs J)) (hb : Below w.heap.size w w') => show Scanned w zs (.returned (.tuple #[.slice A' J c', .int .i64 ((plc zs J : Nat) : Int)])) w' from ⟨J, A', c', hU.out, rfl, h, hn, hp, hb⟩)
      generalize plc zs J = p at *
      go_wp2_with (first
        | (go_at_call 127; (with_reducible refine hf.out.mono ?_); rintro e w1 ⟨⟨A1, c1, rfl⟩, k1⟩; have k1' := hide k1; clear k1))
      obtain ⟨A2, c2, hv, hle, hnil, _, hparts⟩ := (hgr.out.below k1'.out).parts
      rw [hlp] at hv hle
      go_ret2
      rw [hv]
      exact hres.out w1 A2 c2 hle hnil hparts (hb.out.trans (k1'.out.mono hb.out.size))
set_option maxRecDepth 100000 in
set_option maxHeartbeats 1000000 in
theorem rscan_any (A : Option Addr) (n c : Nat) (zs : List Int) (w : World) (hn : zs.length = n) (hz : Lies w A zs) (hc : n ≤ c) (ho : Octets zs) (ln : n ≤ 1000000000000) :
    Calls Tryz.prog 90 #[.slice A n c] w (Scanned w zs) := by
  obtain ⟨i0, hi, hz0, hz1, hz2⟩ := info_parts Tryz.info31
  have hnx := hide (fun (wr : World) (hb : Below w.heap.size w wr) (p : Nat) (hp : p ≤ n) => rnext_any A n c zs (p : Int) wr hn (hz.below hb) hc ho (by omega) (by omega))
  clear hz ho
  go_enter Tryz.func90, Tryz.ntmps90
  go_wp2
  go_loopw [4, 5] (fun l at_ wr => ∃ J : Nat, Hid (∀ j, j < J → nxE (zs.drop (plc zs j)) = 0) ∧ at_ = .int .i64 ((plc zs J : Nat) : Int) ∧ Hid (Grow w.heap.size wr l (pays zs J)) ∧ Hid (Below w.heap.size w wr)) (fun _ at_ _ => n - (intOf at_).toNat)
  case atStart => exact ⟨0, fun j hj => absurd hj (by omega), rfl, Grow.nil _ _, Below.refl _ _⟩
  case round =>
    obtain ⟨J, hJ, rfl, hgr, hb⟩ := hrel
    have hp0 := plc_le J hJ.out
    have hp1 := plc_ge J hJ.out
    have hlp := length_pays zs J
    by_cases hE : nxE (zs.drop (plc zs J)) = 0
    · have hf := hide ((hnx.out wr hb.out (plc zs J) (by omega)).mono fun _ _ g => g.found hp0 hE)
      have hgt : plc zs J < plc zs (J + 1) := by show _ < plc zs J + nxN (zs.drop (plc zs J)) + 6; omega
      have hle : plc zs (J + 1) ≤ n := by
        have := plc_le (zs := zs) (J + 1) (fun j hj => by
          by_cases h : j < J
          · exact hJ.out j h
          · obtain rfl : j = J := by omega
            exact hE)
        omega
      have hJ1 := hide (show ∀ j, j < J + 1 → nxE (zs.drop (plc zs j)) = 0 from fun j hj => by
        by_cases h : j < J
        · exact hJ.out j h
        · obtain rfl : j = J := by omega
          exact hE)
      have hpay := hide (show pays zs (J + 1) = pays zs J ++ [nxP (zs.drop (plc zs J))] from rfl)
      unfold Found at hf
      generalize nxP (zs.drop (plc zs J)) = pl at *
      obtain ⟨q, HQ⟩ : ∃ q, plc zs (J + 1) = q := ⟨_, rfl⟩
      rw [HQ] at hgt hle hf
      have HQ := hide (show Value.int .i64 ((q : Nat) : Int) = .int .i64 ((plc zs (J + 1) : Nat) : Int) by rw [HQ])
      generalize plc zs J = p at *
      clear hE hJ
      generalize pays zs J = L at *
      go_wp2_with (first
        | (go_at_call 109; (with_reducible refine hf.out.mono ?_); rintro e w1 ⟨A1, c1, rfl, o1, k1⟩; obtain ⟨vs, hvs, hvl⟩ := (hgr.out.below k1).own; have hvn := hvs.1; have hvs := hide (hvs.alloc (.cells #[.slice A1 pl.length c1] 31)); have hvl := hide hvl; have hbs := k1.size; have hbs2 := hb.out.size; have o1' := hide o1; have k1' := hide k1; clear o1 k1)
        | (at_builtin; refine wpList_append_own_at _ rfl (.tmp 20) (.tmp 22) 27 rfl w.heap.size 31 i0 (.slice none 0 0) 1 24 Tryz.underlying27 hi hz0 hz1 hz2 rfl (by omega) _ L.length vs rfl hvs.out ⟨w1.heap.size, 0, none⟩ 1 1 [.slice A1 pl.length c1] rfl rfl (cell_one_new _ _ _) (by intro u hu; rw [List.mem_singleton] at hu; subst hu; rfl) (by unfold maxLen; omega) (by omega) (by simp; omega) ?_))
      intro v2 w2 o2 g2 _ at2
      have hb1 := hb.out.trans (k1'.out.mono hbs2)
      have hb2 := (hb1.alloc (by omega) (.cells #[.slice A1 pl.length c1] 31)).grown g2 (by simp; omega) (fun k hk => (hvs.out.lt k hk).1)
      have hmore := Grow.more (base := w.heap.size) (w := w1.alloc (.cells #[.slice A1 pl.length c1] 31)) ((El.of_own o1'.out).alloc _) (fun a ha => ⟨own_other hgr.out.own.choose_spec.1 o1'.out a ha, by have := own_lt o1'.out a ha; simp; omega, by have := own_ge o1'.out a ha; have := hb.out.size; omega⟩)
        (fun j r hj => by
          obtain ⟨A', c', h1, h2, h3⟩ := hvl.out j r hj
          exact ⟨A', c', h1, h2.alloc _, fun a ha => ⟨(h3 a ha).1, by have := (h3 a ha).2.1; simp; omega, (h3 a ha).2.2⟩⟩) (by omega) (by rw [hlp]; exact o2) g2 (at2.imp id (fun h => by rw [h]; simp))
      rw [← hpay.out] at hmore
      have hmore := hide hmore
      have hb2 := hide hb2
      clear o2 g2 at2 hvl hvs hgr hb1 hf hnx hb k1' o1'
      go_wp2
      go_roundw
      case rel => exact ⟨J + 1, hJ1, HQ.out, hmore, hb2⟩
      case measure => simp [intOf]; omega
    · have hf := hide ((hnx.out wr hb.out (plc zs J) (by omega)).mono fun _ _ g => g.ended hp0 hE)
      have hne : (nxE (zs.drop (plc zs J)) != 0) = true := by simpa using hE
      have hU : Hid (Upto zs J) := ⟨hJ.out, hE⟩
      unfold Ended at hf
      generalize nxE (zs.drop (plc zs J)) = E at *
      clear hE hJ
      have hres := hide (fun (w' : World) (A' : Option Addr) (c' : Nat) (h : J ≤ c') (hn : A' = none → c' = 0) (hp : PartsN w.heap.size w' A' (pays zs J)) (hb : Below w.heap.size w w') => show Scanned w zs (.returned (.tuple #[.slice A' J c', .int .i64 ((plc zs J : Nat) : Int)])) w' from ⟨J, A', c', hU.out, rfl, h, hn, hp, hb⟩)
      generalize plc zs J = p at *
      go_wp2_with (first
        | (go_at_call 109; (with_reducible refine hf.out.mono ?_); rintro e w1 ⟨⟨A1, c1, rfl⟩, k1⟩; have k1' := hide k1; clear k1))
      obtain ⟨A2, c2, hv, hle, hnil, _, hparts⟩ := (hgr.out.below k1'.out).parts
      rw [hlp] at hv hle
      go_ret2
      rw [hv]
      exact hres.out w1 A2 c2 hle hnil hparts (hb.out.trans (k1'.out.mono hb.out.size))
end Go.Proofs.YtkmcnhjfnjikaaaGreatDoor
/- What lists comes to: are two lists of lists of bytes the same. Conditions: they lie in memory, their lengths have room. -/
namespace Go.Proofs.YtkmcnhjfnjikaaaGreatDoor
open Go.RowKit
theorem ext_get {L M : List (List Int)} (hl : L.length = M.length) (h : ∀ j, j < L.length → L.getD j [] = M.getD j []) : L = M := by
  apply List.ext_getElem hl
  intro k h1 h2
  have := h k h1
  rwa [List.getD_eq_getElem?_getD, List.getD_eq_getElem?_getD, List.getElem?_eq_getElem h1, List.getElem?_eq_getElem h2] at this
theorem get_some {L : List (List Int)} {j : Nat} (h : j < L.length) : L[j]? = some (L.getD j []) := by
  rw [List.getD_eq_getElem?_getD, List.getElem?_eq_getElem h]; rfl
end Go.Proofs.YtkmcnhjfnjikaaaGreatDoor
/- Frames one behind the other, in plain words: where they are found, cut off, turned. No condition: nothing here speaks of a program. -/
namespace Go.Proofs.YtkmcnhjfnjikaaaGreatDoor
open Go.RowKit
/-- Frames one behind the other. -/
def enc (F : List (List Int)) : List Int := F.flatMap frm
theorem enc_append (F G : List (List Int)) : enc (F ++ G) = enc F ++ enc G := by unfold enc; rw [List.flatMap_append]
theorem enc_cons (p : List Int) (F : List (List Int)) : enc (p :: F) = frm p ++ enc F := by unfold enc; rw [List.flatMap_cons]
theorem enc_nil : enc [] = [] := rfl
theorem enc_one (p : List Int) : enc [p] = frm p := by rw [enc_cons, enc_nil, List.append_nil]
/-- Payloads that may be. -/
def Right (F : List (List Int)) : Prop := ∀ p, p ∈ F → May p.length ∧ Octets p
theorem octets_enc : ∀ {F : List (List Int)}, Right F → Octets (enc F)
  | [], _ => fun z hz => by rw [enc_nil] at hz; cases hz
  | p :: F, h => by
    rw [enc_cons]
    exact (octets_frm (h p List.mem_cons_self).2).append (octets_enc fun q hq => h q (List.mem_cons_of_mem _ hq))
theorem enc_walk {F : List (List Int)} {r : List Int} (h : Right F) : ∀ j, j ≤ F.length → (enc F ++ r).drop (plc (enc F ++ r) j) = enc (F.drop j) ++ r ∧ plc (enc F ++ r) j = (enc (F.take j)).length ∧ pays (enc F ++ r) j = F.take j ∧ ∀ i, i < j → nxE ((enc F ++ r).drop (plc (enc F ++ r) i)) = 0
  | 0, _ => ⟨rfl, rfl, rfl, fun i hi => absurd hi (by omega)⟩
  | j + 1, hj => by
    obtain ⟨h1, h2, h3, h4⟩ := enc_walk h j (by omega)
    have hlt : j < F.length := by omega
    have hd : F.drop j = F[j] :: F.drop (j + 1) := List.drop_eq_getElem_cons hlt
    have hr := h F[j] (List.getElem_mem hlt)
    have hz : (enc F ++ r).drop (plc (enc F ++ r) j) = frm F[j] ++ (enc (F.drop (j + 1)) ++ r) := by rw [h1, hd, enc_cons, List.append_assoc]
    have hN := nxN_frm (enc (F.drop (j + 1)) ++ r) hr.1
    have hE := nxE_frm (enc (F.drop (j + 1)) ++ r) hr.1 hr.2
    have hP := nxP_frm (enc (F.drop (j + 1)) ++ r) hr.1
    have hp : plc (enc F ++ r) (j + 1) = plc (enc F ++ r) j + (frm F[j]).length := by
      show plc (enc F ++ r) j + nxN ((enc F ++ r).drop (plc (enc F ++ r) j)) + 6 = _
      rw [hz, hN, length_frm]; omega
    have ht : F.take (j + 1) = F.take j ++ [F[j]] := (List.take_append_getElem hlt).symm
    refine ⟨?_, ?_, ?_, fun i hi => ?_⟩
    · rw [hp, ← List.drop_drop, hz, List.drop_left]
    · rw [hp, h2, ht, enc_append, enc_one, List.length_append]
    · show pays (enc F ++ r) j ++ [nxP ((enc F ++ r).drop (plc (enc F ++ r) j))] = _
      rw [h3, hz, hP, ht]
    · by_cases hi2 : i < j
      · exact h4 i hi2
      · obtain rfl : i = j := by omega
        rw [hz]; exact hE
/-- All of them are found, where none stands behind. -/
theorem enc_upto {F : List (List Int)} {r : List Int} (h : Right F) (hr : nxE r ≠ 0) : Upto (enc F ++ r) F.length ∧ plc (enc F ++ r) F.length = (enc F).length ∧ pays (enc F ++ r) F.length = F := by
  obtain ⟨h1, h2, h3, h4⟩ := enc_walk (r := r) h F.length (Nat.le_refl _)
  rw [List.drop_length, enc_nil, List.nil_append] at h1
  rw [List.take_length] at h2 h3
  exact ⟨⟨h4, by rw [h1]; exact hr⟩, h2, h3⟩
/-- The number is what the first two bytes say. -/
theorem nxN_take {r s : List Int} (h : r.take 2 = s.take 2) : nxN r = nxN s := by
  unfold nxN
  have e : ∀ t : List Int, le t 0 2 = le (t.take 2) 0 2 := fun t => by
    have hx : ∀ k, k < 2 → ix (t.take 2) k = ix t k := fun k hk => by
      unfold ix; rw [List.getD_eq_getElem?_getD, List.getD_eq_getElem?_getD, List.getElem?_take, if_pos hk]
    show 0 + ix t (0 + 0) * 256 ^ 0 + ix t (0 + 1) * 256 ^ 1 = 0 + ix (t.take 2) (0 + 0) * 256 ^ 0 + ix (t.take 2) (0 + 1) * 256 ^ 1
    rw [hx _ (by omega), hx _ (by omega)]
  rw [e r, e s, h]
theorem nxE_nil : nxE [] ≠ 0 := by decide
/-- One that is cut off isn't found. -/
theorem nxE_cut {p : List Int} (hp : May p.length) {k : Nat} (hk : k < (frm p).length) : nxE ((frm p).take k) ≠ 0 := by
  have hl := length_frm p
  have hlt : ((frm p).take k).length = k := by rw [List.length_take]; omega
  by_cases h2 : k < 2
  · unfold nxE; rw [hlt, if_pos h2]; decide
  · have hN : nxN ((frm p).take k) = p.length := by
      have h0 := nxN_frm [] hp
      rw [List.append_nil] at h0
      rw [← h0]
      apply nxN_take
      rw [List.take_take, Nat.min_eq_left (by omega)]
    unfold nxE
    rw [hlt, if_neg h2, hN, if_neg (fun g => g hp), if_pos (by omega)]
    decide
/-! ### Turned bits -/
theorem turned_zero : ∀ {xs ys : List Nat}, Turned 0 xs ys → ys = xs
  | [], _, h => h.1
  | x :: xs, _, h => by
    obtain ⟨y, yt, rfl, rfl, ht⟩ := h
    have h1 : yt = xs := turned_zero (xs := xs) (ys := yt) (by simpa using ht)
    rw [h1]; simp
theorem turned_split : ∀ {us bs cs : List Nat} {m : Nat}, Turned m (us ++ bs) cs → ∃ us' bs', cs = us' ++ bs' ∧ Turned (m % 2 ^ (8 * us.length)) us us' ∧ Turned (m / 2 ^ (8 * us.length)) bs bs'
  | [], bs, cs, m, h => ⟨[], cs, rfl, ⟨rfl, by simp [Nat.mod_one]⟩, by simpa using h⟩
  | a :: us, bs, cs, m, h => by
    obtain ⟨y, yt, rfl, rfl, ht⟩ := h
    obtain ⟨us', bs', rfl, h1, h2⟩ := turned_split (us := us) ht
    have e : 2 ^ (8 * (a :: us).length) = 256 * 2 ^ (8 * us.length) := by
      have : 8 * (a :: us).length = 8 + 8 * us.length := by rw [List.length_cons]; omega
      rw [this, Nat.pow_add]
    refine ⟨(a ^^^ m % 256) :: us', bs', rfl, ⟨a ^^^ m % 256, us', rfl, ?_, ?_⟩, ?_⟩
    · rw [e, Nat.mod_mul_right_mod]
    · rw [e, Nat.mod_mul_right_div_self]; exact h1
    · rw [e, ← Nat.div_div_eq_div_mul]; exact h2
theorem nats_append (xs ys : List Int) : nats (xs ++ ys) = nats xs ++ nats ys := List.map_append
theorem nats_inj : ∀ {xs ys : List Int}, Octets xs → Octets ys → nats xs = nats ys → xs = ys
  | [], [], _, _, _ => rfl
  | [], y :: ys, _, _, h => by simp [nats] at h
  | x :: xs, [], _, _, h => by simp [nats] at h
  | x :: xs, y :: ys, hx, hy, h => by
    have h1 : x.toNat = y.toNat ∧ nats xs = nats ys := by simpa [nats] using h
    have a := hx x List.mem_cons_self
    have b := hy y List.mem_cons_self
    rw [nats_inj (fun z hz => hx z (List.mem_cons_of_mem _ hz)) (fun z hz => hy z (List.mem_cons_of_mem _ hz)) h1.2]
    congr 1
    omega
/-- Bytes of which some were turned, in two parts. -/
theorem parts_turned {A B ys : List Int} {m : Nat} (h : Turned m (nats (A ++ B)) (nats ys)) : Turned (m % 2 ^ (8 * A.length)) (nats A) (nats (ys.take A.length)) ∧ Turned (m / 2 ^ (8 * A.length)) (nats B) (nats (ys.drop A.length)) := by
  rw [nats_append] at h
  obtain ⟨us', bs', e, h1, h2⟩ := turned_split h
  rw [length_nats] at h1 h2
  have hl := turned_length h1
  rw [length_nats] at hl
  have e1 : us' = nats (ys.take A.length) := by
    have h3 : (nats ys).take A.length = us' := by rw [e, ← hl, List.take_left]
    rw [← h3]; unfold nats; rw [List.map_take]
  have e2 : bs' = nats (ys.drop A.length) := by
    have h3 : (nats ys).drop A.length = bs' := by rw [e, ← hl, List.drop_left]
    rw [← h3]; unfold nats; rw [List.map_drop]
  rw [e1] at h1
  rw [e2] at h2
  exact ⟨h1, h2⟩
/-- A number of which bits were turned. -/
theorem le_turned : ∀ (k : Nat) {zs ys : List Int} {m : Nat}, zs.length = k → Octets zs → Octets ys → Turned m (nats zs) (nats ys) → le ys 0 k = (((le zs 0 k).toNat ^^^ m : Nat) : Int)
  | 0, zs, ys, m, hl, _, _, h => by
    have : zs = [] := List.eq_nil_of_length_eq_zero hl
    subst this
    have hm : m = 0 := h.2
    subst hm
    rfl
  | k + 1, [], _, _, hl, _, _, _ => by simp at hl
  | k + 1, z :: zs, [], m, hl, _, _, h => by
    obtain ⟨y, yt, e, _, _⟩ := h
    simp [nats] at e
  | k + 1, z :: zs, y :: ys, m, hl, hz, hy, h => by
    obtain ⟨y', yt, e, hy', ht⟩ := h
    have e' : y.toNat = y' ∧ nats ys = yt := by simpa [nats] using e
    obtain ⟨rfl, rfl⟩ := e'
    have hz' : Octets zs := fun a ha => hz a (List.mem_cons_of_mem _ ha)
    have ih := le_turned k (zs := zs) (ys := ys) (by simpa using hl) hz' (fun a ha => hy a (List.mem_cons_of_mem _ ha)) ht
    have b1 := hz z List.mem_cons_self
    have b2 := hy y List.mem_cons_self
    have hn := (le_bounds hz' 0 k).1
    rw [le_low, le_low]
    have d1 : le (y :: ys) (0 + 1) k = le ys 0 k := (le_drop (y :: ys) 1 0 k).symm
    have d2 : le (z :: zs) (0 + 1) k = le zs 0 k := (le_drop (z :: zs) 1 0 k).symm
    rw [d1, d2, ih]
    show y + 256 * _ = (((z + 256 * le zs 0 k).toNat ^^^ m : Nat) : Int)
    obtain ⟨X, hX⟩ := Int.eq_ofNat_of_zero_le hn
    obtain ⟨Z, rfl⟩ := Int.eq_ofNat_of_zero_le b1.1
    have ey : y = ((Z ^^^ m % 256 : Nat) : Int) := by
      have : y = ((y.toNat : Nat) : Int) := (Int.toNat_of_nonneg b2.1).symm
      rw [this, hy', Int.toNat_natCast]
    rw [hX, Int.toNat_natCast, ey]
    have e1 : ((Z : Int) + 256 * (X : Int)).toNat = 2 ^ 8 * X + Z := by omega
    rw [e1]
    have hZ : Z < 2 ^ 8 := by omega
    have hY : Z ^^^ m % 256 < 2 ^ 8 := Nat.xor_lt_two_pow hZ (Nat.mod_lt _ (by decide))
    have e2 : (2 ^ 8 * X + Z) ^^^ m = 2 ^ 8 * (X ^^^ m / 256) + (Z ^^^ m % 256) := by
      apply Nat.eq_of_testBit_eq
      intro i
      have p8 : (256 : Nat) = 2 ^ 8 := by decide
      rw [Nat.testBit_xor, Nat.testBit_two_pow_mul_add _ hZ, Nat.testBit_two_pow_mul_add _ hY]
      by_cases hi : i < 8
      · rw [if_pos hi, if_pos hi, Nat.testBit_xor, p8, Nat.testBit_mod_two_pow]
        simp [hi]
      · rw [if_neg hi, if_neg hi, Nat.testBit_xor, p8, Nat.testBit_div_two_pow]
        congr 2
        omega
    rw [e2]
    omega
theorem mod_xor (m L : Nat) : m = m % 2 ^ L ^^^ 2 ^ L * (m / 2 ^ L) := by
  apply Nat.eq_of_testBit_eq
  intro i
  rw [Nat.testBit_xor, Nat.testBit_mod_two_pow, Nat.testBit_two_pow_mul, Nat.testBit_div_two_pow]
  by_cases hi : i < L
  · have : ¬ i ≥ L := by omega
    simp [hi, this]
  · have h2 : i ≥ L := by omega
    have h3 : i - L + L = i := by omega
    simp [hi, h2, h3]
theorem stpN_burst {T b : Nat} (L : Nat) (hb : b < 4294967296) (h0 : b ≠ 0) : stpN L (2 ^ T * b) ≠ 0 := by
  by_cases hT : T ≤ L
  · have e : L = T + (L - T) := by omega
    rw [e, stpN_add, stpN_pow]
    have := stpN_pos (Nat.pos_of_ne_zero h0) hb (L - T)
    omega
  · have e : T = L + (T - L) := by omega
    rw [e, Nat.pow_add, Nat.mul_assoc, stpN_pow]
    have := Nat.mul_pos (Nat.two_pow_pos (T - L)) (Nat.pos_of_ne_zero h0)
    omega
/-- A frame of which bits were turned behind its first two bytes isn't found. -/
theorem nxE_turned {q ys : List Int} {T b : Nat} (hq : May q.length) (oq : Octets q) (oy : Octets ys) (h : Turned (2 ^ T * b) (nats (frm q)) (nats ys)) (hT : 16 ≤ T) (hb : b < 4294967296) (h0 : b ≠ 0) : nxE ys ≠ 0 := by
  have hl := turned_length h
  rw [length_nats, length_nats, length_frm] at hl
  have ef : frm q = putL (q.length : Int) 2 ++ (q ++ putL (sumL (body q)) 4) := by unfold frm body; rw [List.append_assoc]
  have h2 := (parts_turned (A := putL (q.length : Int) 2) (by rw [← ef]; exact h)).1
  rw [length_putL] at h2
  have e0 : 2 ^ T * b % 2 ^ (8 * 2) = 0 := by
    have : T = 16 + (T - 16) := by omega
    rw [this, Nat.pow_add, Nat.mul_assoc]
    exact Nat.mul_mod_right _ _
  rw [e0] at h2
  have ht : ys.take 2 = putL (q.length : Int) 2 := nats_inj (fun z hz => oy z (List.mem_of_mem_take hz)) (octets_putL _ 2) (turned_zero h2)
  have hN : nxN ys = q.length := by
    have h3 := nxN_frm [] hq
    rw [List.append_nil] at h3
    rw [← h3]
    apply nxN_take
    rw [ht, ef, List.take_append_of_le_length (by rw [length_putL]; omega), List.take_of_length_le (by rw [length_putL]; omega)]
  unfold nxE
  rw [hl, hN, if_neg (by omega), if_neg (fun g => g hq), if_neg (by omega), if_pos]
  · decide
  intro he
  have hb2 : (body q).length = 2 + q.length := by rw [length_body]; omega
  have h4 := parts_turned (A := body q) (B := putL (sumL (body q)) 4) (by exact h)
  rw [hb2] at h4
  obtain ⟨t1, t2⟩ := h4
  have hs := sumL_bounds (octets_body oq)
  have d1 : le ys (2 + q.length) 4 = le (ys.drop (2 + q.length)) 0 4 := (le_drop ys (2 + q.length) 0 4).symm
  have d2 := le_turned 4 (zs := putL (sumL (body q)) 4) (ys := ys.drop (2 + q.length)) (length_putL _ 4) (octets_putL _ 4) (fun z hz => oy z (List.mem_of_mem_drop hz)) t2
  have d3 : le (putL (sumL (body q)) 4) 0 4 = sumL (body q) := by
    rw [le_putL _ 4 0 4 (by omega)]
    have e2 : (256 : Int) ^ 0 = 1 := rfl
    have e3 : (256 : Int) ^ 4 = 4294967296 := by decide
    rw [e2, e3, Int.ediv_one, Int.emod_eq_of_lt (by omega) (by omega)]
  rw [d1, d2, d3] at he
  have hc := turned_crc t1 (0 ^^^ 4294967295) 0
  rw [Nat.zero_xor, Nat.xor_zero, length_nats, hb2] at hc
  have he2 : crc 0 (nats (ys.take (2 + q.length))) = crc 0 (nats (body q)) ^^^ (2 ^ T * b) / 2 ^ (8 * (2 + q.length)) := by
    have h5 : ((crc 0 (nats (ys.take (2 + q.length))) : Nat) : Int) = (((((crc 0 (nats (body q)) : Nat) : Int)).toNat ^^^ (2 ^ T * b) / 2 ^ (8 * (2 + q.length)) : Nat) : Int) := he
    rw [Int.toNat_natCast] at h5
    omega
  unfold crc at he2
  generalize hL : 8 * (2 + q.length) = L at *
  generalize crcS (0 ^^^ 4294967295) (nats (body q)) = u at *
  generalize crcS (0 ^^^ 4294967295) (nats (ys.take (2 + q.length))) = v at *
  have hv : v = u ^^^ 2 ^ T * b / 2 ^ L := by
    have h6 := congrArg (· ^^^ 4294967295) he2
    simp only [xor_cancel] at h6
    rw [h6, Nat.xor_assoc, Nat.xor_assoc, Nat.xor_comm (2 ^ T * b / 2 ^ L), ← Nat.xor_assoc 4294967295, Nat.xor_self, Nat.zero_xor]
  apply stpN_burst (T := T) L hb h0
  rw [mod_xor (2 ^ T * b) L, stpN_xor, stpN_pow, hc, hv, ← Nat.xor_assoc, Nat.xor_self, Nat.zero_xor, Nat.xor_self]
end Go.Proofs.YtkmcnhjfnjikaaaGreatDoor
