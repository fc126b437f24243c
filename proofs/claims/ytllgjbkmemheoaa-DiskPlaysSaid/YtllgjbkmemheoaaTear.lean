/- tear, Crash of the program's disk. Condition: the picks are ints. -/
import Derived.Test.YtllgjbkmemheoaaSync
import Derived.Deep.DeepCutAuto
namespace Go.Proofs.Ytllgjbkmemheoaa
open Go.RowKit Go.Maps
section
variable {S : Nat → Prop} {w w' : World} {g b : Nat} {lf : Int} {loc : ByteArray → Loc} {d : DS} {nm : ByteArray}
set_option maxRecDepth 100000 in
set_option maxHeartbeats 1000000 in
theorem tear_any (p : Nat) (B : Option Addr) (n cb k : Nat) (q : Int) (w : World) (h : Row w p 62 #[.slice B n cb, .int .i64 k]) (hk : k ≤ n) (hn : n ≤ cb) (hnx : n ≤ 1048576) (hq : 0 ≤ q ∧ q ≤ 9223372036854775807) :
    Calls Try.prog 31 #[.pointer (some ⟨p, 0, none⟩), .int .i64 q] w fun e w' => e = .returned (.tuple #[]) ∧ Row w' p 62 #[.slice B (k + (q % ((n : Int) - k + 1)).toNat) cb, .int .i64 (k + (q % ((n : Int) - k + 1)).toNat : Nat)] ∧ w.grownBy w' (some p) := by
  have hm0 := Int.emod_nonneg q (show (n : Int) - k + 1 ≠ 0 by omega)
  have hm1 := Int.emod_lt_of_pos q (show 0 < (n : Int) - k + 1 by omega)
  obtain ⟨r, hr⟩ : ∃ r : Nat, q % ((n : Int) - k + 1) = r := ⟨(q % ((n : Int) - k + 1)).toNat, by omega⟩
  rw [hr]
  simp only [Int.toNat_natCast]
  have p0 : w.cell? ⟨p, 0, none⟩ = some (.slice B n cb) := h.cell 0
  have p1 : w.cell? ⟨p, 1, none⟩ = some (.int .i64 k) := h.cell 1
  have f0 : w.frozen? ⟨p, 0, none⟩ = false := h.free 0
  have f1 : w.frozen? ⟨p, 1, none⟩ = false := h.free 1
  have e1 : IntKind.i64.wrap ((n : Int) - k) = (n : Int) - k := IntWalk.i64_in _ (by omega)
  have e2 : IntKind.i64.wrap ((n : Int) - k + 1) = (n : Int) - k + 1 := IntWalk.i64_in _ (by omega)
  have e3 : q.tmod ((n : Int) - k + 1) = r := by rw [Int.tmod_eq_emod_of_nonneg hq.1, hr]
  have e4 : IntKind.i64.wrap ((k : Int) + r) = (k : Int) + r := IntWalk.i64_in _ (by omega)
  have hkr : k + r ≤ n := by omega
  clear hm0 hm1 hr
  go_enter Try.func31, Try.ntmps31
  go_wp2
  go_quiet (fail)
  go_wp2
  have h1 := hide (h.drewN nq)
  have G1 := hide (grown_drewN (grown_refl w (some p)) nq)
  clear h
  generalize w.drewN nq = w1 at *
  clear p0 p1 f0 f1
  have p0 : w1.cell? ⟨p, 0, none⟩ = some (.slice B n cb) := h1.out.cell 0
  have p1 : w1.cell? ⟨p, 1, none⟩ = some (.int .i64 k) := h1.out.cell 1
  have f0 : w1.frozen? ⟨p, 0, none⟩ = false := h1.out.free 0
  have f1 : w1.frozen? ⟨p, 1, none⟩ = false := h1.out.free 1
  go_region
  go_wp2
  have h2 := hide ((h1.out.put 1 (.int .i64 ((k : Int) + r))).drew)
  have G2 := hide (grown_drew (grown_put G1.out 1 (.int .i64 ((k : Int) + r))))
  clear h1 G1 p0 p1 f0 f1
  generalize (w1.setCell ⟨p, 1, none⟩ (.int .i64 ((k : Int) + r))).drew = w2 at *
  have p0 : w2.cell? ⟨p, 0, none⟩ = some (.slice B n cb) := h2.out.cell 0
  have p1 : w2.cell? ⟨p, 1, none⟩ = some (.int .i64 ((k : Int) + r)) := h2.out.cell 1
  have f0 : w2.frozen? ⟨p, 0, none⟩ = false := h2.out.free 0
  have f1 : w2.frozen? ⟨p, 1, none⟩ = false := h2.out.free 1
  go_region
  go_wp2
  go_end0
  exact ⟨rfl, (h2.out.put 0 (.slice B (k + r) cb)).drew, grown_drew (grown_put G2.out 0 _)⟩
/-! ### Crash -/
/-- The ints ps lie from address A on, below the heap's end. -/
def LiesI (w : World) (A : Option Addr) (ps : List Int) : Prop :=
  0 < ps.length → ∃ b off, A = some ⟨b, off, none⟩ ∧ b < w.heap.size ∧ ∀ k, k < ps.length → w.cell? ⟨b, off + k, none⟩ = some (.int .i64 (ix ps k))
theorem LiesI.turn {A : Option Addr} {ps : List Int} (h : LiesI w A ps) (ht : Turn S w w') (ho : Out S A ps) : LiesI w' A ps := fun hn => by
  obtain ⟨b, off, rfl, hlt, hc⟩ := h hn
  have e := ht.block b hlt (ho hn _ rfl)
  exact ⟨b, off, rfl, Nat.lt_of_lt_of_le hlt ht.size, fun k hk => (World.cell?_of_block (a := ⟨b, off + k, none⟩) e).trans (hc k hk)⟩
theorem LiesI.at_ {A : Option Addr} {ps : List Int} {k : Nat} (h : LiesI w A ps) (hk : k < ps.length) : ∃ b off, A = some ⟨b, off, none⟩ ∧ b < w.heap.size ∧ w.cell? ⟨b, off + k, none⟩ = some (.int .i64 (ix ps k)) := by
  obtain ⟨b, off, e, hb, hc⟩ := h (by omega)
  exact ⟨b, off, e, hb, hc k hk⟩
theorem LiesI.below {A : Option Addr} {ps : List Int} (h : LiesI w A ps) (hb : Below w.heap.size w w') : LiesI w' A ps := fun hn => by
  obtain ⟨b, off, e, hlt, hc⟩ := h hn
  exact ⟨b, off, e, Nat.lt_of_lt_of_le hlt hb.size, fun k hk => (hb.cell (p := ⟨b, off + k, none⟩) hlt).trans (hc k hk)⟩
/-- The files of which the first k are torn. -/
def torn (ps : List Int) (k : Nat) (l : List Fl) : List Fl := tears ps 0 (l.take k) ++ l.drop k
theorem tears_length (ps : List Int) : ∀ (i : Nat) (l : List Fl), (tears ps i l).length = l.length
  | _, [] => rfl
  | i, x :: l => by simp [tears, tears_length ps (i + 1) l]
theorem tears_nms (ps : List Int) : ∀ (i : Nat) (l : List Fl), (tears ps i l).map (·.nm) = l.map (·.nm)
  | _, [] => rfl
  | i, x :: l => by simp [tears, tear, tears_nms ps (i + 1) l]
theorem torn_nms (ps : List Int) (k : Nat) (l : List Fl) : (torn ps k l).map (·.nm) = l.map (·.nm) := by
  unfold torn
  rw [List.map_append, tears_nms, ← List.map_append, List.take_append_drop]
theorem up_nms {l m : List Fl} (h : Up l) (e : m.map (·.nm) = l.map (·.nm)) : Up m := by
  have h1 : (l.map (·.nm)).Pairwise fun a b => ltB a b = true := List.pairwise_map.2 h
  rw [← e] at h1
  exact List.pairwise_map.1 h1
theorem put_mid (ps : List Int) (p : Int) : ∀ (i : Nat) (a : List Fl) (x : Fl) (r : List Fl), Up (a ++ x :: r) → putF (tear x p) (tears ps i a ++ x :: r) = tears ps i a ++ tear x p :: r
  | _, [], x, r, _ => putF_same r rfl
  | i, y :: a, x, r, hu => by
    have ih := put_mid ps p (i + 1) a x r (List.Pairwise.of_cons hu)
    have hlt : ltB y.nm x.nm = true := List.rel_of_pairwise_cons hu (by simp)
    have hne : ¬ y.nm = x.nm := fun e => by rw [e, lt_self] at hlt; cases hlt
    show putF (tear x p) (tear y (pickAt ps i) :: (tears ps (i + 1) a ++ x :: r)) = tear y (pickAt ps i) :: (tears ps (i + 1) a ++ tear x p :: r)
    rw [putF_lt _ (show ¬ (tear y (pickAt ps i)).nm = (tear x p).nm from hne) (show ltB (tear y (pickAt ps i)).nm (tear x p).nm = true from hlt), ih]
theorem tears_snoc (ps : List Int) : ∀ (i : Nat) (a : List Fl) (x : Fl), tears ps i (a ++ [x]) = tears ps i a ++ [tear x (pickAt ps (i + a.length))]
  | _, [], _ => rfl
  | i, y :: a, x => by
    have := tears_snoc ps (i + 1) a x
    simp only [List.cons_append, tears, this, List.length_cons, Nat.add_assoc, Nat.add_comm 1]
theorem torn_step (ps : List Int) {k : Nat} {l : List Fl} {x : Fl} (hu : Up l) (hk : l[k]? = some x) : putF (tear x (pickAt ps k)) (torn ps k l) = torn ps (k + 1) l := by
  have hlt : k < l.length := by
    rcases Nat.lt_or_ge k l.length with h | h
    · exact h
    · rw [List.getElem?_eq_none h] at hk; cases hk
  have hx : l[k] = x := by rw [List.getElem?_eq_getElem hlt] at hk; exact Option.some.inj hk
  have hd : l.drop k = x :: l.drop (k + 1) := by rw [List.drop_eq_getElem_cons hlt, hx]
  have ht : l.take (k + 1) = l.take k ++ [x] := by rw [List.take_succ_eq_append_getElem hlt, hx]
  unfold torn
  rw [hd, ht, tears_snoc, List.length_take, put_mid ps _ 0 (l.take k) x (l.drop (k + 1)) (by rw [← hd, List.take_append_drop]; exact hu)]
  rw [show 0 + min k l.length = k by omega]
  simp
theorem torn_mem (ps : List Int) {k : Nat} {l : List Fl} {x : Fl} (hk : l[k]? = some x) : x ∈ torn ps k l := by
  have hlt : k < l.length := by
    rcases Nat.lt_or_ge k l.length with h | h
    · exact h
    · rw [List.getElem?_eq_none h] at hk; cases hk
  have hx : l[k] = x := by rw [List.getElem?_eq_getElem hlt] at hk; exact Option.some.inj hk
  unfold torn
  rw [List.drop_eq_getElem_cons hlt, hx]
  simp
theorem torn_zero (ps : List Int) (l : List Fl) : torn ps 0 l = l := rfl
theorem torn_all (ps : List Int) (l : List Fl) : torn ps l.length l = tears ps 0 l := by unfold torn; simp
theorem pick_in (ps : List Int) (k : Nat) : pickAt ps k = max (ix ps k) 0 := rfl
theorem pick_out (ps : List Int) {k : Nat} (h : ps.length ≤ k) : pickAt ps k = 0 := by
  unfold pickAt
  rw [List.getD_eq_getElem?_getD, List.getElem?_eq_none h]; rfl
theorem pick_bound {ps : List Int} (h : ∀ p, p ∈ ps → -9223372036854775808 ≤ p ∧ p ≤ 9223372036854775807) (k : Nat) : 0 ≤ pickAt ps k ∧ pickAt ps k ≤ 9223372036854775807 := by
  rcases Nat.lt_or_ge k ps.length with h1 | h1
  · rw [pick_in ps k, ix_lt ps h1]
    have := h _ (List.getElem_mem h1)
    omega
  · rw [pick_out ps h1]; omega
/-- What holds at the head of round k. -/
structure Cr (S : Nat → Prop) (w : World) (g : Nat) (d : DS) (ps : List Int) (N : Option Addr) (A : Option Addr) (k : Nat) (wr : World) : Prop where
  disk : ∃ S', Dk S' wr g { d with l := torn ps k d.l } ∧ Own S w S' wr ∧ Out S' A ps ∧ ∀ b off, N = some ⟨b, off, none⟩ → 0 < d.l.length → ¬ S' b
  names : Strs wr N (nms d.l)
  picks : LiesI wr A ps
/-- What round k meets. -/
theorem Cr.round {ps : List Int} {N A : Option Addr} {k : Nat} {wr : World} (h : Cr S w g d ps N A k wr) (hd : DOk d) {x : Fl} (hx : d.l[k]? = some x) :
    ∃ b p B cb, (∃ nb no, N = some ⟨nb, no, none⟩ ∧ wr.cell? ⟨nb, no + k, none⟩ = some (.string x.nm)) ∧ wr.cell? ⟨g, 1, none⟩ = some (.map (some b)) ∧
      (Instr.lookup 57 (.map (some b)) (.string x.nm) false).run Try.prog wr = .ok (.pointer (some ⟨p, 0, none⟩)) wr ∧
      Row wr p 62 #[.slice B x.dt.length cb, .int .i64 x.kp] ∧ x.kp ≤ x.dt.length ∧ x.dt.length ≤ cb ∧ x.dt.length ≤ 1048576 ∧ (B = none → cb = 0) ∧
      ∀ w', Row w' p 62 #[.slice B (x.kp + (pickAt ps k % ((x.dt.length : Int) - x.kp + 1)).toNat) cb, .int .i64 (x.kp + (pickAt ps k % ((x.dt.length : Int) - x.kp + 1)).toNat : Nat)] → wr.grownBy w' (some p) → Cr S w g d ps N A (k + 1) w' := by
  obtain ⟨S', ⟨b, lf, loc, hD⟩, hO, hA, hN⟩ := h.disk
  have hxm : x ∈ d.l := List.mem_of_getElem? hx
  have hlp : 0 < d.l.length := List.length_pos_of_mem hxm
  obtain ⟨nb, no, rfl, hnl, hnc⟩ := h.names.at_ (k := k) (x := x.nm) (by unfold nms; rw [List.getElem?_map, hx]; rfl)
  have hm := torn_mem ps hx
  have hf := find_of_mem hD.ok.up hm
  have hsz := (name_size (hd.nm x hxm)).2
  have hat := hD.atF (nm := x.nm) (by unfold maxLen; omega) hf
  have ho := hD.files.one x hm
  have hfl := flen hD.ok hm
  have hkp := hd.kp x hxm
  refine ⟨b, (loc x.nm).p, (loc x.nm).A, (loc x.nm).c, ⟨nb, no, rfl, hnc⟩, hat.c1, hat.look, ho.head, hkp, ho.le, hfl, ho.nil, fun w' hr hg => ?_⟩
  have hm1 := Int.emod_lt_of_pos (pickAt ps k) (show 0 < (x.dt.length : Int) - x.kp + 1 by omega)
  have hm0 := Int.emod_nonneg (pickAt ps k) (show (x.dt.length : Int) - x.kp + 1 ≠ 0 by omega)
  obtain ⟨hD2, hT2⟩ := hD.fewer hm _ _ (by omega) (Nat.le_refl _) hg hr
  have e := torn_step ps hd.up hx
  unfold tear at e
  simp only [e] at hD2
  have hng : nb < wr.heap.size := hnl
  refine ⟨⟨_, hD2, hO.trans (Own.more hT2), fun hn a ha => ?_, fun b' off e1 _ => ?_⟩, fun hn => ?_, h.picks.turn hT2 hA⟩
  · obtain ⟨b1, o1, e1, hl1, _⟩ := h.picks hn
    rintro (k1 | k1)
    · exact hA hn a ha k1
    · rw [ha] at e1; injection e1 with e1; subst e1; have := k1.1; simp only at this; omega
  · injection e1 with e1; injection e1 with e1
    subst e1
    rintro (k1 | k1)
    · exact hN _ _ rfl hlp k1
    · omega
  · obtain ⟨b1, o1, e1, hl1, hc1⟩ := h.names hn
    injection e1 with e1; injection e1 with e1 e2
    subst e1 e2
    have e3 := hT2.block nb hnl (hN _ _ rfl hlp)
    exact ⟨nb, no, rfl, Nat.lt_of_lt_of_le hnl hT2.size, fun j y hj => (World.cell?_of_block (a := ⟨nb, no + j, none⟩) e3).trans (hc1 j y hj)⟩
end
end Go.Proofs.Ytllgjbkmemheoaa
