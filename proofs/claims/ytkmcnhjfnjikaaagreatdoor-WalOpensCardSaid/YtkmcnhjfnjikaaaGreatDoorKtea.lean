/- tear, Crash of the program's disk. Condition: the picks are ints. -/
import Derived.Test.YtkmcnhjfnjikaaaGreatDoorKcut
import Derived.Deep.DeepCutAuto
import Derived.LoopTactic
namespace Go.Proofs.YtkmcnhjfnjikaaaGreatDoor
open Go.RowKit Go.Maps
section
variable {S : Nat → Prop} {w w' : World} {g b : Nat} {lf : Int} {loc : ByteArray → Loc} {d : DS} {nm : ByteArray}
set_option maxRecDepth 100000 in
set_option maxHeartbeats 1000000 in
theorem tear_any (p : Nat) (B : Option Addr) (n cb k : Nat) (q : Int) (w : World) (h : Row w p 115 #[.slice B n cb, .int .i64 k]) (hk : k ≤ n) (hn : n ≤ cb) (hnx : n ≤ 1048576) (hq : 0 ≤ q ∧ q ≤ 9223372036854775807) :
    Calls Tryz.prog 57 #[.pointer (some ⟨p, 0, none⟩), .int .i64 q] w fun e w' => e = .returned (.tuple #[]) ∧ Row w' p 115 #[.slice B (k + (q % ((n : Int) - k + 1)).toNat) cb, .int .i64 (k + (q % ((n : Int) - k + 1)).toNat : Nat)] ∧ w.grownBy w' (some p) := by
  have hm0 := Int.emod_nonneg q (show (n : Int) - k + 1 ≠ 0 by omega)
  have hm1 := Int.emod_lt_of_pos q (show 0 < (n : Int) - k + 1 by omega)
  obtain ⟨r, hr⟩ : ∃ r : Nat, q % ((n : Int) - k + 1) = r := ⟨(q % ((n : Int) - k + 1)).toNat, by omega⟩
  rw [hr]
  simp only [Int.toNat_natCast]
  have p0 : w.cell? ⟨p, 0, none⟩ = some (.slice B n cb) := h.cell 0
  have p1 : w.cell? ⟨p, 1, none⟩ = some (.int .i64 k) := h.cell 1
  have f0 : w.frozen? ⟨p, 0, none⟩ = false := h.free 0
  have f1 : w.frozen? ⟨p, 1, none⟩ = false := h.free 1
  have e1 : IntKind.i64.wrap ((n : Int) - k) = (n : Int) - k := IntWalk.i64_in _ (by omega)
  have e2 : IntKind.i64.wrap ((n : Int) - k + 1) = (n : Int) - k + 1 := IntWalk.i64_in _ (by omega)
  have e3 : q.tmod ((n : Int) - k + 1) = r := by rw [Int.tmod_eq_emod_of_nonneg hq.1, hr]
  have e4 : IntKind.i64.wrap ((k : Int) + r) = (k : Int) + r := IntWalk.i64_in _ (by omega)
  have hkr : k + r ≤ n := by omega
  clear hm0 hm1 hr
  go_enter Tryz.func57, Tryz.ntmps57
  go_wp2
  go_quiet (fail)
  go_wp2
  have h1 := hide (h.drewN nq)
  have G1 := hide (grown_drewN (grown_refl w (some p)) nq)
  clear h
  generalize w.drewN nq = w1 at *
  clear p0 p1 f0 f1
  have p0 : w1.cell? ⟨p, 0, none⟩ = some (.slice B n cb) := h1.out.cell 0
  have p1 : w1.cell? ⟨p, 1, none⟩ = some (.int .i64 k) := h1.out.cell 1
  have f0 : w1.frozen? ⟨p, 0, none⟩ = false := h1.out.free 0
  have f1 : w1.frozen? ⟨p, 1, none⟩ = false := h1.out.free 1
  go_region
  go_wp2
  have h2 := hide ((h1.out.put 1 (.int .i64 ((k : Int) + r))).drew)
  have G2 := hide (grown_drew (grown_put G1.out 1 (.int .i64 ((k : Int) + r))))
  clear h1 G1 p0 p1 f0 f1
  generalize (w1.setCell ⟨p, 1, none⟩ (.int .i64 ((k : Int) + r))).drew = w2 at *
  have p0 : w2.cell? ⟨p, 0, none⟩ = some (.slice B n cb) := h2.out.cell 0
  have p1 : w2.cell? ⟨p, 1, none⟩ = some (.int .i64 ((k : Int) + r)) := h2.out.cell 1
  have f0 : w2.frozen? ⟨p, 0, none⟩ = false := h2.out.free 0
  have f1 : w2.frozen? ⟨p, 1, none⟩ = false := h2.out.free 1
  go_region
  go_wp2
  go_end0
  exact ⟨rfl, (h2.out.put 0 (.slice B (k + r) cb)).drew, grown_drew (grown_put G2.out 0 _)⟩
/-! ### Crash -/
/-- The ints ps lie from address A on, below the heap's end. -/
def LiesI (w : World) (A : Option Addr) (ps : List Int) : Prop :=
  0 < ps.length → ∃ b off, A = some ⟨b, off, none⟩ ∧ b < w.heap.size ∧ ∀ k, k < ps.length → w.cell? ⟨b, off + k, none⟩ = some (.int .i64 (ix ps k))
theorem LiesI.turn {A : Option Addr} {ps : List Int} (h : LiesI w A ps) (ht : Turn S w w') (ho : Out S A ps) : LiesI w' A ps := fun hn => by
  obtain ⟨b, off, rfl, hlt, hc⟩ := h hn
  have e := ht.block b hlt (ho hn _ rfl)
  exact ⟨b, off, rfl, Nat.lt_of_lt_of_le hlt ht.size, fun k hk => (World.cell?_of_block (a := ⟨b, off + k, none⟩) e).trans (hc k hk)⟩
theorem LiesI.at_ {A : Option Addr} {ps : List Int} {k : Nat} (h : LiesI w A ps) (hk : k < ps.length) : ∃ b off, A = some ⟨b, off, none⟩ ∧ b < w.heap.size ∧ w.cell? ⟨b, off + k, none⟩ = some (.int .i64 (ix ps k)) := by
  obtain ⟨b, off, e, hb, hc⟩ := h (by omega)
  exact ⟨b, off, e, hb, hc k hk⟩
theorem LiesI.below {A : Option Addr} {ps : List Int} (h : LiesI w A ps) (hb : Below w.heap.size w w') : LiesI w' A ps := fun hn => by
  obtain ⟨b, off, e, hlt, hc⟩ := h hn
  exact ⟨b, off, e, Nat.lt_of_lt_of_le hlt hb.size, fun k hk => (hb.cell (p := ⟨b, off + k, none⟩) hlt).trans (hc k hk)⟩
/-- The files of which the first k are torn. -/
def torn (ps : List Int) (k : Nat) (l : List Fl) : List Fl := tears ps 0 (l.take k) ++ l.drop k
theorem tears_length (ps : List Int) : ∀ (i : Nat) (l : List Fl), (tears ps i l).length = l.length
  | _, [] => rfl
  | i, x :: l => by simp [tears, tears_length ps (i + 1) l]
theorem tears_nms (ps : List Int) : ∀ (i : Nat) (l : List Fl), (tears ps i l).map (·.nm) = l.map (·.nm)
  | _, [] => rfl
  | i, x :: l => by simp [tears, tear, tears_nms ps (i + 1) l]
theorem torn_nms (ps : List Int) (k : Nat) (l : List Fl) : (torn ps k l).map (·.nm) = l.map (·.nm) := by
  unfold torn
  rw [List.map_append, tears_nms, ← List.map_append, List.take_append_drop]
theorem up_nms {l m : List Fl} (h : Up l) (e : m.map (·.nm) = l.map (·.nm)) : Up m := by
  have h1 : (l.map (·.nm)).Pairwise fun a b => ltB a b = true := List.pairwise_map.2 h
  rw [← e] at h1
  exact List.pairwise_map.1 h1
theorem put_mid (ps : List Int) (p : Int) : ∀ (i : Nat) (a : List Fl) (x : Fl) (r : List Fl), Up (a ++ x :: r) → putF (tear x p) (tears ps i a ++ x :: r) = tears ps i a ++ tear x p :: r
  | _, [], x, r, _ => putF_same r rfl
  | i, y :: a, x, r, hu => by
    have ih := put_mid ps p (i + 1) a x r (List.Pairwise.of_cons hu)
    have hlt : ltB y.nm x.nm = true := List.rel_of_pairwise_cons hu (by simp)
    have hne : ¬ y.nm = x.nm := fun e => by rw [e, lt_self] at hlt; cases hlt
    show putF (tear x p) (tear y (pickAt ps i) :: (tears ps (i + 1) a ++ x :: r)) = tear y (pickAt ps i) :: (tears ps (i + 1) a ++ tear x p :: r)
    rw [putF_lt _ (show ¬ (tear y (pickAt ps i)).nm = (tear x p).nm from hne) (show ltB (tear y (pickAt ps i)).nm (tear x p).nm = true from hlt), ih]
theorem tears_snoc (ps : List Int) : ∀ (i : Nat) (a : List Fl) (x : Fl), tears ps i (a ++ [x]) = tears ps i a ++ [tear x (pickAt ps (i + a.length))]
  | _, [], _ => rfl
  | i, y :: a, x => by
    have := tears_snoc ps (i + 1) a x
    simp only [List.cons_append, tears, this, List.length_cons, Nat.add_assoc, Nat.add_comm 1]
theorem torn_step (ps : List Int) {k : Nat} {l : List Fl} {x : Fl} (hu : Up l) (hk : l[k]? = some x) : putF (tear x (pickAt ps k)) (torn ps k l) = torn ps (k + 1) l := by
  have hlt : k < l.length := by
    rcases Nat.lt_or_ge k l.length with h | h
    · exact h
    · rw [List.getElem?_eq_none h] at hk; cases hk
  have hx : l[k] = x := by rw [List.getElem?_eq_getElem hlt] at hk; exact Option.some.inj hk
  have hd : l.drop k = x :: l.drop (k + 1) := by rw [List.drop_eq_getElem_cons hlt, hx]
  have ht : l.take (k + 1) = l.take k ++ [x] := by rw [List.take_succ_eq_append_getElem hlt, hx]
  unfold torn
  rw [hd, ht, tears_snoc, List.length_take, put_mid ps _ 0 (l.take k) x (l.drop (k + 1)) (by rw [← hd, List.take_append_drop]; exact hu)]
  rw [show 0 + min k l.length = k by omega]
  simp
theorem torn_mem (ps : List Int) {k : Nat} {l : List Fl} {x : Fl} (hk : l[k]? = some x) : x ∈ torn ps k l := by
  have hlt : k < l.length := by
    rcases Nat.lt_or_ge k l.length with h | h
    · exact h
    · rw [List.getElem?_eq_none h] at hk; cases hk
  have hx : l[k] = x := by rw [List.getElem?_eq_getElem hlt] at hk; exact Option.some.inj hk
  unfold torn
  rw [List.drop_eq_getElem_cons hlt, hx]
  simp
theorem torn_zero (ps : List Int) (l : List Fl) : torn ps 0 l = l := rfl
theorem torn_all (ps : List Int) (l : List Fl) : torn ps l.length l = tears ps 0 l := by unfold torn; simp
theorem pick_in (ps : List Int) (k : Nat) : pickAt ps k = max (ix ps k) 0 := rfl
theorem pick_out (ps : List Int) {k : Nat} (h : ps.length ≤ k) : pickAt ps k = 0 := by
  unfold pickAt
  rw [List.getD_eq_getElem?_getD, List.getElem?_eq_none h]; rfl
theorem pick_bound {ps : List Int} (h : ∀ p, p ∈ ps → -9223372036854775808 ≤ p ∧ p ≤ 9223372036854775807) (k : Nat) : 0 ≤ pickAt ps k ∧ pickAt ps k ≤ 9223372036854775807 := by
  rcases Nat.lt_or_ge k ps.length with h1 | h1
  · rw [pick_in ps k, ix_lt ps h1]
    have := h _ (List.getElem_mem h1)
    omega
  · rw [pick_out ps h1]; omega
/-- What holds at the head of round k. -/
structure Cr (S : Nat → Prop) (w : World) (g : Nat) (d : DS) (ps : List Int) (N : Option Addr) (A : Option Addr) (k : Nat) (wr : World) : Prop where
  disk : ∃ S', Dk S' wr g { d with l := torn ps k d.l } ∧ Own S w S' wr ∧ Out S' A ps ∧ ∀ b off, N = some ⟨b, off, none⟩ → 0 < d.l.length → ¬ S' b
  names : Strs wr N (nms d.l)
  picks : LiesI wr A ps
/-- What round k meets. -/
theorem Cr.round {ps : List Int} {N A : Option Addr} {k : Nat} {wr : World} (h : Cr S w g d ps N A k wr) (hd : DOk d) {x : Fl} (hx : d.l[k]? = some x) :
    ∃ b p B cb, (∃ nb no, N = some ⟨nb, no, none⟩ ∧ wr.cell? ⟨nb, no + k, none⟩ = some (.string x.nm)) ∧ wr.cell? ⟨g, 1, none⟩ = some (.map (some b)) ∧
      (Instr.lookup 74 (.map (some b)) (.string x.nm) false).run Tryz.prog wr = .ok (.pointer (some ⟨p, 0, none⟩)) wr ∧
      Row wr p 115 #[.slice B x.dt.length cb, .int .i64 x.kp] ∧ x.kp ≤ x.dt.length ∧ x.dt.length ≤ cb ∧ x.dt.length ≤ 1048576 ∧ (B = none → cb = 0) ∧
      ∀ w', Row w' p 115 #[.slice B (x.kp + (pickAt ps k % ((x.dt.length : Int) - x.kp + 1)).toNat) cb, .int .i64 (x.kp + (pickAt ps k % ((x.dt.length : Int) - x.kp + 1)).toNat : Nat)] → wr.grownBy w' (some p) → Cr S w g d ps N A (k + 1) w' := by
  obtain ⟨S', ⟨b, lf, loc, hD⟩, hO, hA, hN⟩ := h.disk
  have hxm : x ∈ d.l := List.mem_of_getElem? hx
  have hlp : 0 < d.l.length := List.length_pos_of_mem hxm
  obtain ⟨nb, no, rfl, hnl, hnc⟩ := h.names.at_ (k := k) (x := x.nm) (by unfold nms; rw [List.getElem?_map, hx]; rfl)
  have hm := torn_mem ps hx
  have hf := find_of_mem hD.ok.up hm
  have hsz := (name_size (hd.nm x hxm)).2
  have hat := hD.atF (nm := x.nm) (by unfold maxLen; omega) hf
  have ho := hD.files.one x hm
  have hfl := flen hD.ok hm
  have hkp := hd.kp x hxm
  refine ⟨b, (loc x.nm).p, (loc x.nm).A, (loc x.nm).c, ⟨nb, no, rfl, hnc⟩, hat.c1, hat.look, ho.head, hkp, ho.le, hfl, ho.nil, fun w' hr hg => ?_⟩
  have hm1 := Int.emod_lt_of_pos (pickAt ps k) (show 0 < (x.dt.length : Int) - x.kp + 1 by omega)
  have hm0 := Int.emod_nonneg (pickAt ps k) (show (x.dt.length : Int) - x.kp + 1 ≠ 0 by omega)
  obtain ⟨hD2, hT2⟩ := hD.fewer hm _ _ (by omega) (Nat.le_refl _) hg hr
  have e := torn_step ps hd.up hx
  unfold tear at e
  simp only [e] at hD2
  have hng : nb < wr.heap.size := hnl
  refine ⟨⟨_, hD2, hO.trans (Own.more hT2), fun hn a ha => ?_, fun b' off e1 _ => ?_⟩, fun hn => ?_, h.picks.turn hT2 hA⟩
  · obtain ⟨b1, o1, e1, hl1, _⟩ := h.picks hn
    rintro (k1 | k1)
    · exact hA hn a ha k1
    · rw [ha] at e1; injection e1 with e1; subst e1; have := k1.1; simp only at this; omega
  · injection e1 with e1; injection e1 with e1
    subst e1
    rintro (k1 | k1)
    · exact hN _ _ rfl hlp k1
    · omega
  · obtain ⟨b1, o1, e1, hl1, hc1⟩ := h.names hn
    injection e1 with e1; injection e1 with e1 e2
    subst e1 e2
    have e3 := hT2.block nb hnl (hN _ _ rfl hlp)
    exact ⟨nb, no, rfl, Nat.lt_of_lt_of_le hnl hT2.size, fun j y hj => (World.cell?_of_block (a := ⟨nb, no + j, none⟩) e3).trans (hc1 j y hj)⟩
end
end Go.Proofs.YtkmcnhjfnjikaaaGreatDoor
/- Crash of the program's disk. Conditions: the picks lie apart from the disk and are ints; the files have room in a slice. -/
namespace Go.Proofs.YtkmcnhjfnjikaaaGreatDoor
open Go.RowKit Go.Maps
/-- A call without an answer: the disk behind it. -/
def Chu (S : Nat → Prop) (w : World) (g : Nat) (d : DS) (e : Ending) (w' : World) : Prop := e = .returned (.tuple #[]) ∧ ∃ S', Dk S' w' g d ∧ Own S w S' w'
section
variable {S : Nat → Prop} {w w' : World} {g : Nat} {d : DS} {ps : List Int} {N A : Option Addr}
theorem dok_cells {d e : DS} (h : DOk d) (hq : e.q = d.q) (hl : e.l = d.l) (hf : -1 ≤ e.left ∧ e.left ≤ 9223372036854775807) : DOk e :=
  ⟨by rw [hl]; exact h.up, by rw [hq]; exact h.q, by rw [hl, hq]; exact h.tot, by rw [hl]; exact h.kp, by rw [hl]; exact h.nm, by rw [hl]; exact h.oct, hf⟩
/-- What is left to do behind the loop. -/
theorem Cr.done (h : Cr S w g d ps N A d.l.length w') : ∃ b lf, w'.cell? ⟨g, 2, none⟩ = some (.int .i64 lf) ∧ w'.cell? ⟨g, 3, none⟩ = some (.bool b) ∧ w'.frozen? ⟨g, 2, none⟩ = false ∧ w'.frozen? ⟨g, 3, none⟩ = false ∧
    Chu S w g (craS d ps) (.returned (.tuple #[])) ((w'.setCell ⟨g, 2, none⟩ (.int .i64 (-1))).setCell ⟨g, 3, none⟩ (.bool false)) := by
  obtain ⟨S', ⟨b, lf, loc, hD⟩, hO, _, _⟩ := h.disk
  rw [torn_all] at hD
  have hg := grown_put (grown_put (grown_refl w' (some g)) 2 (.int .i64 (-1))) 3 (.bool false)
  refine ⟨_, lf, hD.row.cell 2, hD.row.cell 3, hD.row.free 2, hD.row.free 3, rfl, S', ⟨b, -1, loc, hD.cells (e := craS d ps) (m := -1) hg ((hD.row.put 2 (.int .i64 (-1))).put 3 (.bool false)) ⟨rfl, by omega, by omega⟩ rfl (dok_cells hD.ok rfl rfl (by unfold craS; simp only; omega))⟩, ?_⟩
  exact ⟨hO.turn.trans (Turn.of_grown (S := S') hg (fun k e => by injection e with e; rw [← e]; exact hD.sg)) hO.new, hO.new⟩
set_option maxRecDepth 100000 in
set_option maxHeartbeats 2000000 in
theorem crash_any (n c : Nat) (h : Dk S w g d) (hln : d.l.length ≤ 1000000) (hp : LiesI w A ps) (hpn : ps.length = n) (hpx : n ≤ 4611686018427387904) (hout : Out S A ps) (hpb : ∀ p, p ∈ ps → -9223372036854775808 ≤ p ∧ p ≤ 9223372036854775807) :
    Calls Tryz.prog 24 #[.pointer (some ⟨g, 0, none⟩), .slice A n c] w (Chu S w g (craS d ps)) := by
  subst hpn
  have hN := hide (names_any g d w h hln)
  have hok := hide h.ok
  have hb := hide (pick_bound hpb)
  have START := hide (show ∀ N w1, Below w.heap.size w w1 → Strs w1 N (nms d.l) → (0 < d.l.length → ∀ b off, N = some ⟨b, off, none⟩ → w.heap.size ≤ b) → Cr S w g d ps N A 0 w1 from fun N w1 hb hs hf =>
    ⟨⟨S, h.below hb, ⟨Turn.of_below hb, fun _ hk => .inl hk⟩, hout, fun b off e hl k => by have := hf hl b off e; have := h.lt b k; omega⟩, hs, hp.below hb⟩)
  clear h hp hout hpb
  go_enter Tryz.func24, Tryz.ntmps24
  go_wp2_with (go_at_call 37; (with_reducible refine hN.out.mono ?_); rintro e w1 ⟨N, cN, rfl, hcN, hS, hbw, hfr⟩; have HS := hide (START.out N w1 hbw hS hfr); clear hS hbw hfr START)
  go_loopw [10] (fun i wr => ∃ k : Nat, k ≤ d.l.length ∧ i = .int .i64 k ∧ Hid (Cr S w g d ps N A k wr)) (fun i _ => d.l.length - (intOf i).toNat)
  case atStart => exact ⟨0, by omega, rfl, HS⟩
  case round =>
    clear HS
    obtain ⟨k, hk, rfl, hC⟩ := hrel
    by_cases hlt : k < d.l.length
    · obtain ⟨x, hx⟩ : ∃ x, d.l[k]? = some x := ⟨_, List.getElem?_eq_getElem hlt⟩
      have hpk := hb.out k
      obtain ⟨b, p, B, cb, ⟨nb, no, rfl, n0⟩, c1, hlk, hrow, hkp, hle, hlx, hB, hend⟩ := hC.out.round hok.out hx
      have HE := hide hend
      have HR := hide hrow
      have HC := hide hC.out.picks
      clear hend hrow hC hx
      by_cases hps : k < ps.length
      · obtain ⟨b1, o1, rfl, _, a0⟩ := HC.out.at_ hps
        have hpi := pick_in ps k
        rw [hpi] at HE hpk
        generalize ix ps k = pk at *
        clear hpi HC
        go_wp2_with (go_at_call 57; (with_reducible refine (tear_any p B _ cb _ _ _ HR.out hkp hle hlx hpk).mono ?_); rintro e w2 ⟨rfl, hr2, hg2⟩; have HF := hide (HE.out w2 hr2 hg2); clear hr2 hg2 HE HR)
        go_roundw
        case rel => exact ⟨k + 1, by omega, by go_num, HF⟩
        case measure => simp [intOf]; omega
      · have hpi := pick_out ps (k := k) (by omega)
        rw [hpi] at HE hpk
        clear hpi HC
        go_wp2_with (go_at_call 57; (with_reducible refine (tear_any p B _ cb _ _ _ HR.out hkp hle hlx hpk).mono ?_); rintro e w2 ⟨rfl, hr2, hg2⟩; have HF := hide (HE.out w2 hr2 hg2); clear hr2 hg2 HE HR)
        go_roundw
        case rel => exact ⟨k + 1, by omega, by go_num, HF⟩
        case measure => simp [intOf]; omega
    · obtain rfl : k = d.l.length := by omega
      obtain ⟨b, lf, c2, c3, f2, f3, hch⟩ := hC.out.done
      have HCH := hide hch
      clear hC hch
      go_wp2
      go_end0
      exact HCH.out
end
end Go.Proofs.YtkmcnhjfnjikaaaGreatDoor
/- The disk's calls, said for callers: what is left alone stays. Conditions as the calls' own. -/
namespace Go.Proofs.YtkmcnhjfnjikaaaGreatDoor
open Go.RowKit Go.Maps
/-- At block g there is the disk d, none of whose blocks is in X. -/
def Dq (X : Nat → Prop) (w : World) (g : Nat) (d : DS) : Prop := ∃ S, Dk S w g d ∧ (∀ k, S k → ¬ X k) ∧ ∀ k, X k → k < w.heap.size
/-- All that is in X stays. -/
def Kx (X : Nat → Prop) (w w' : World) : Prop := Turn (fun k => ¬ X k) w w'
section
variable {X Y : Nat → Prop} {w w' w2 : World} {g : Nat} {d : DS}
theorem Kx.refl (X : Nat → Prop) (w : World) : Kx X w w := Turn.refl _ _
theorem Kx.trans (h : Kx X w w') (k : Kx X w' w2) : Kx X w w2 := Turn.trans h k fun _ hk => .inl hk
theorem Kx.of_below (h : Below w.heap.size w w') : Kx X w w' := Turn.of_below h
theorem Kx.mono (h : Kx X w w') (hs : ∀ k, Y k → X k) : Kx Y w w' := Turn.mono h fun k hk x => hk (hs k x)
theorem Kx.below (h : Kx X w w') {B : Nat} (hB : B ≤ w.heap.size) (hs : ∀ k, k < B → X k) : Below B w w' := ⟨h.os, h.tape, h.output, h.size, fun k hk => h.block k (by omega) fun hn => hn (hs k hk)⟩
theorem Kx.same (h : Kx X w w') {k : Nat} (hk : X k) (hl : k < w.heap.size) : w'.heap[k]? = w.heap[k]? := h.block k hl fun hn => hn hk
theorem Dq.ok (h : Dq X w g d) : DOk d := by obtain ⟨S, h, _⟩ := h; exact h.ok
theorem Dq.below (h : Dq X w g d) (hb : Below w.heap.size w w') : Dq X w' g d := by
  obtain ⟨S, h, h1, h2⟩ := h
  exact ⟨S, h.below hb, h1, fun k hk => Nat.lt_of_lt_of_le (h2 k hk) hb.size⟩
theorem Dq.less (h : Dq X w g d) (hs : ∀ k, Y k → X k) : Dq Y w g d := by
  obtain ⟨S, h, h1, h2⟩ := h
  exact ⟨S, h, fun k hk y => h1 k hk (hs k y), fun k hk => h2 k (hs k hk)⟩
/-- New blocks are apart from it. -/
theorem Dq.more (h : Dq X w g d) (hb : Below w.heap.size w w') (hY : ∀ k, Y k → X k ∨ (w.heap.size ≤ k ∧ k < w'.heap.size)) : Dq Y w' g d := by
  obtain ⟨S, h, h1, h2⟩ := h
  refine ⟨S, h.below hb, fun k hk y => ?_, fun k hk => ?_⟩
  · rcases hY k y with z | z
    · exact h1 k hk z
    · have := h.lt k hk; omega
  · rcases hY k hk with z | z
    · exact Nat.lt_of_lt_of_le (h2 k z) hb.size
    · exact z.2
/-- Blocks of X may turn. -/
theorem Dq.turned (h : Dq X w g d) {row : Option Nat} (hg : w.grownBy w' row) (hr : ∀ k, row = some k → X k) : Dq X w' g d := by
  obtain ⟨S, h, h1, h2⟩ := h
  exact ⟨S, h.kept hg.size fun k hk => hg.block k (h.lt k hk) fun e => h1 k hk (hr k e.symm), h1, fun k hk => Nat.lt_of_lt_of_le (h2 k hk) hg.size⟩
theorem Dq.of_own {S S' : Nat → Prop} (hd : Dk S' w' g d) (ho : Own S w S' w') (h1 : ∀ k, S k → ¬ X k) (h2 : ∀ k, X k → k < w.heap.size) : Dq X w' g d ∧ Kx X w w' := by
  refine ⟨⟨S', hd, fun k hk x => ?_, fun k hk => Nat.lt_of_lt_of_le (h2 k hk) ho.turn.size⟩, ho.turn.mono h1⟩
  rcases ho.new k hk with z | z
  · exact h1 k z x
  · have := h2 k x; omega
theorem calls_q {f : FuncId} {args : Array Value} {x : Int} {d' : DS} (h : Dq X w g d) (hc : ∀ S, Dk S w g d → (∀ k, S k → ¬ X k) → Calls Tryz.prog f args w (Chg S w g x d')) :
    Calls Tryz.prog f args w fun e w' => e = .returned (.int .i64 x) ∧ Dq X w' g d' ∧ Kx X w w' := by
  obtain ⟨S, h, h1, h2⟩ := h
  exact (hc S h h1).mono fun e w' ⟨he, S', hd, ho⟩ => ⟨he, Dq.of_own hd ho h1 h2⟩
/-- Where it lies is in X. -/
def InX (X : Nat → Prop) (A : Option Addr) (zs : List Int) : Prop := 0 < zs.length → ∀ a, A = some a → X a.block
theorem InX.out {A : Option Addr} {zs : List Int} (h : InX X A zs) {S : Nat → Prop} (hs : ∀ k, S k → ¬ X k) : Out S A zs := fun hn a ha hk => hs _ hk (h hn a ha)
theorem Lies.kx {A : Option Addr} {zs : List Int} (h : Lies w A zs) (hk : Kx X w w') (hx : InX X A zs) : Lies w' A zs := h.turn hk fun hn a ha hk => hk (hx hn a ha)
theorem LiesI.kx {A : Option Addr} {zs : List Int} (h : LiesI w A zs) (hk : Kx X w w') (hx : InX X A zs) : LiesI w' A zs := h.turn hk fun hn a ha hk => hk (hx hn a ha)
theorem InX.nil (X : Nat → Prop) (A : Option Addr) : InX X A [] := fun h => absurd h (by simp)
theorem append_q {nm : ByteArray} {A : Option Addr} {n c : Nat} {zs : List Int} (h : Dq X w g d) (hs : nm.size ≤ 140737488351232) (hm : zs.length = n) (hc : A = none → c = 0) (hl : Lies w A zs) (hx : InX X A zs) (hz : Octets zs) (hln : d.l.length < 9000000000) :
    Calls Tryz.prog 30 #[.pointer (some ⟨g, 0, none⟩), .string nm, .slice A n c] w fun e w' => e = .returned (.int .i64 (appE d nm zs)) ∧ Dq X w' g (appS d nm zs) ∧ Kx X w w' :=
  calls_q h fun _ hd hS => append_any g nm A n c zs d w hd hs hm hc hl (hx.out hS) hz hln
/-- Append of a slice that was made just now. -/
theorem append_new {nm : ByteArray} {w1 : World} {A : Option Addr} {n c : Nat} {zs : List Int} (h : Dq X w g d) (hb : Below w.heap.size w w1) (hs : nm.size ≤ 140737488351232) (hm : zs.length = n) (hc : A = none → c = 0) (hl : Lies w1 A zs) (hA : 0 < zs.length → ∀ a, A = some a → w.heap.size ≤ a.block) (hz : Octets zs) (hln : d.l.length < 9000000000) :
    Calls Tryz.prog 30 #[.pointer (some ⟨g, 0, none⟩), .string nm, .slice A n c] w1 fun e w' => e = .returned (.int .i64 (appE d nm zs)) ∧ Dq X w' g (appS d nm zs) ∧ Kx X w w' := by
  have h1 : Dq (fun k => X k ∨ (0 < zs.length ∧ ∃ a, A = some a ∧ k = a.block)) w1 g d := h.more hb fun k hk => by
    rcases hk with hk | ⟨hn, a, ha, rfl⟩
    · exact .inl hk
    · refine .inr ⟨hA hn a ha, ?_⟩
      obtain ⟨b, off, e, hlt, _⟩ := hl hn
      rw [e] at ha; injection ha with ha; subst ha; exact hlt
  refine (append_q h1 hs hm hc hl (fun hn a ha => .inr ⟨hn, a, ha, rfl⟩) hz hln).mono fun e w' ⟨h1, h2, h3⟩ => ⟨h1, h2.less fun k hk => .inl hk, (Kx.of_below hb).trans (h3.mono fun k hk => .inl hk)⟩
theorem sync_q {nm : ByteArray} (h : Dq X w g d) (hs : nm.size ≤ maxLen) :
    Calls Tryz.prog 81 #[.pointer (some ⟨g, 0, none⟩), .string nm] w fun e w' => e = .returned (.int .i64 (synE d nm)) ∧ Dq X w' g (synS d nm) ∧ Kx X w w' :=
  calls_q h fun _ hd _ => sync_any hd hs
theorem cut_q {nm : ByteArray} {n : Int} (h : Dq X w g d) (hs : nm.size ≤ maxLen) (hn : -9223372036854775808 ≤ n ∧ n ≤ 9223372036854775807) :
    Calls Tryz.prog 78 #[.pointer (some ⟨g, 0, none⟩), .string nm, .int .i64 n] w fun e w' => e = .returned (.int .i64 (cutE d nm n)) ∧ Dq X w' g (cutS d nm n) ∧ Kx X w w' :=
  calls_q h fun _ hd _ => cut_any hd hs n hn
theorem remove_q {nm : ByteArray} (h : Dq X w g d) (hs : nm.size ≤ maxLen) :
    Calls Tryz.prog 80 #[.pointer (some ⟨g, 0, none⟩), .string nm] w fun e w' => e = .returned (.int .i64 (remE d nm)) ∧ Dq X w' g (remS d nm) ∧ Kx X w w' :=
  calls_q h fun _ hd _ => remove_any hd hs
theorem arm_q {n : Int} (h : Dq X w g d) (hn : -9223372036854775808 ≤ n ∧ n ≤ 9223372036854775807) :
    Calls Tryz.prog 22 #[.pointer (some ⟨g, 0, none⟩), .int .i64 n] w fun e w' => e = .returned (.tuple #[]) ∧ Dq X w' g (armS d n) ∧ Kx X w w' := by
  obtain ⟨S, hd, h1, h2⟩ := h
  exact (arm_any g n d w hd hn).mono fun e w' ⟨he, hd', hg⟩ => ⟨he, Dq.of_own hd' ⟨Turn.of_grown hg (fun k e => by injection e with e; rw [← e]; obtain ⟨_, _, _, p⟩ := hd; exact p.sg), fun k hk => .inl hk⟩ h1 h2⟩
theorem crash_q {A : Option Addr} {n c : Nat} {ps : List Int} (h : Dq X w g d) (hln : d.l.length ≤ 1000000) (hp : LiesI w A ps) (hpn : ps.length = n) (hpx : n ≤ 4611686018427387904) (hx : InX X A ps) (hpb : ∀ p, p ∈ ps → -9223372036854775808 ≤ p ∧ p ≤ 9223372036854775807) :
    Calls Tryz.prog 24 #[.pointer (some ⟨g, 0, none⟩), .slice A n c] w fun e w' => e = .returned (.tuple #[]) ∧ Dq X w' g (craS d ps) ∧ Kx X w w' := by
  obtain ⟨S, hd, h1, h2⟩ := h
  exact (crash_any n c hd hln hp hpn hpx (hx.out h1) hpb).mono fun e w' ⟨he, S', hd', ho⟩ => ⟨he, Dq.of_own hd' ho h1 h2⟩
theorem crash_new {w1 : World} {A : Option Addr} {n c : Nat} {ps : List Int} (h : Dq X w g d) (hb : Below w.heap.size w w1) (hln : d.l.length ≤ 1000000) (hp : LiesI w1 A ps) (hpn : ps.length = n) (hpx : n ≤ 4611686018427387904) (hA : 0 < ps.length → ∀ a, A = some a → w.heap.size ≤ a.block) (hpb : ∀ p, p ∈ ps → -9223372036854775808 ≤ p ∧ p ≤ 9223372036854775807) :
    Calls Tryz.prog 24 #[.pointer (some ⟨g, 0, none⟩), .slice A n c] w1 fun e w' => e = .returned (.tuple #[]) ∧ Dq X w' g (craS d ps) ∧ Kx X w w' := by
  have h1 : Dq (fun k => X k ∨ (0 < ps.length ∧ ∃ a, A = some a ∧ k = a.block)) w1 g d := h.more hb fun k hk => by
    rcases hk with hk | ⟨hn, a, ha, rfl⟩
    · exact .inl hk
    · refine .inr ⟨hA hn a ha, ?_⟩
      obtain ⟨b, off, e, hlt, _⟩ := hp hn
      rw [e] at ha; injection ha with ha; subst ha; exact hlt
  refine (crash_q h1 hln hp hpn hpx (fun hn a ha => .inr ⟨hn, a, ha, rfl⟩) hpb).mono fun e w' ⟨h1, h2, h3⟩ => ⟨h1, h2.less fun k hk => .inl hk, (Kx.of_below hb).trans (h3.mono fun k hk => .inl hk)⟩
theorem read_q {nm : ByteArray} (h : Dq X w g d) (hs : nm.size ≤ maxLen) : Calls Tryz.prog 35 #[.pointer (some ⟨g, 0, none⟩), .string nm] w (ReadP w (find nm d.l)) := by
  obtain ⟨S, hd, _⟩ := h
  exact read_any g nm d w hd hs
theorem total_q (h : Dq X w g d) : Calls Tryz.prog 33 #[.pointer (some ⟨g, 0, none⟩)] w fun e w' => e = .returned (.int .i64 (total d.l)) ∧ Below w.heap.size w w' := by
  obtain ⟨S, hd, _⟩ := h
  exact total_any g d w hd
theorem room_q (h : Dq X w g d) : Calls Tryz.prog 34 #[.pointer (some ⟨g, 0, none⟩)] w fun e w' => e = .returned (.int .i64 (d.q - total d.l)) ∧ Below w.heap.size w w' := by
  obtain ⟨S, hd, _⟩ := h
  exact room_any g d w hd
theorem names_q (h : Dq X w g d) (hln : d.l.length ≤ 1000000) : Calls Tryz.prog 37 #[.pointer (some ⟨g, 0, none⟩)] w (NamesP w d.l) := by
  obtain ⟨S, hd, _⟩ := h
  exact names_any g d w hd hln
/-- New answers a disk that is apart from all that was. -/
theorem new_q (q : Int) (w : World) (hq : 0 ≤ q ∧ q ≤ 1048576) :
    Calls Tryz.prog 10 #[.int .i64 q] w fun e w' => ∃ g, e = .returned (.tuple #[.pointer (some ⟨g, 0, none⟩), .int .i64 0]) ∧ Dq (fun k => k < w.heap.size) w' g (newS q) ∧ Below w.heap.size w w' :=
  (new_yes q w hq).mono fun e w' ⟨g, he, hd, hb⟩ => ⟨g, he, ⟨fresh w, hd, fun k hk => by unfold fresh at hk; omega, fun k hk => Nat.lt_of_lt_of_le hk hb.size⟩, hb⟩
end
/-- What a law holds on to: the disk, and that nothing of before has turned. -/
structure Lw (W : World) (X : Nat → Prop) (w : World) (g : Nat) (d : DS) : Prop where
  low : Below W.heap.size W w
  q : Dq X w g d
  xs : ∀ k, k < W.heap.size → X k
section
variable {W w w' : World} {X Y : Nat → Prop} {g : Nat} {d d' : DS}
theorem Lw.step (h : Lw W X w g d) (hq : Dq X w' g d') (hk : Kx X w w') : Lw W X w' g d' := ⟨h.low.trans (hk.below h.low.size h.xs), hq, h.xs⟩
theorem Lw.below (h : Lw W X w g d) (hb : Below w.heap.size w w') : Lw W X w' g d := ⟨kept_trans h.low hb, h.q.below hb, h.xs⟩
theorem Lw.start (hd : Dq (fun k => k < W.heap.size) w g d) (hb : Below W.heap.size W w) : Lw W (fun k => k < W.heap.size) w g d := ⟨hb, hd, fun _ h => h⟩
/-- .. and the block at A. -/
def plus (X : Nat → Prop) (A : Option Addr) : Nat → Prop := fun k => X k ∨ ∃ a, A = some a ∧ k = a.block
theorem inX_plus (X : Nat → Prop) (A : Option Addr) (zs : List Int) : InX (plus X A) A zs := fun _ a ha => .inr ⟨a, ha, rfl⟩
/-- Behind a call that hands a new slice of bytes over. -/
theorem Lw.plus {A : Option Addr} {n c : Nat} {zs : List Int} (h : Lw W X w g d) (ho : w'.ownsRow w.heap.size 5 1 (.slice A n c) n (cellsOf zs)) (hb : Below w.heap.size w w') : Lw W (Go.Proofs.YtkmcnhjfnjikaaaGreatDoor.plus X A) w' g d :=
  ⟨kept_trans h.low hb, h.q.more hb fun k hk => by
    rcases hk with hk | ⟨a, ha, rfl⟩
    · exact .inl hk
    · exact .inr (ho.lt a.block (by rw [ha]; rfl)), fun k hk => .inl (h.xs k hk)⟩
/-- The disk, and a slice of bytes apart from it. -/
structure Lr (W : World) (X : Nat → Prop) (A : Option Addr) (zs : List Int) (w : World) (g : Nat) (d : DS) : Prop where
  l : Lw W (Go.Proofs.YtkmcnhjfnjikaaaGreatDoor.plus X A) w g d
  lies : Lies w A zs
theorem Lr.step {A : Option Addr} {zs : List Int} (h : Lr W X A zs w g d) (hq : Dq (Go.Proofs.YtkmcnhjfnjikaaaGreatDoor.plus X A) w' g d') (hk : Kx (Go.Proofs.YtkmcnhjfnjikaaaGreatDoor.plus X A) w w') : Lr W X A zs w' g d' := ⟨h.l.step hq hk, h.lies.kx hk (inX_plus X A zs)⟩
theorem Lr.below {A : Option Addr} {zs : List Int} (h : Lr W X A zs w g d) (hb : Below w.heap.size w w') : Lr W X A zs w' g d := ⟨h.l.below hb, h.lies.below hb⟩
theorem Lw.read {A : Option Addr} {n c : Nat} {zs : List Int} (h : Lw W X w g d) (ho : w'.ownsRow w.heap.size 5 1 (.slice A n c) n (cellsOf zs)) (hb : Below w.heap.size w w') : Lr W X A zs w' g d := ⟨h.plus ho hb, Lies.of_own ho⟩
end
end Go.Proofs.YtkmcnhjfnjikaaaGreatDoor
