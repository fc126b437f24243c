/- What the law on what is kept comes to, in plain words. No condition. -/
import Derived.Test.YtllgjbkmemheoaaParts
namespace Go.Proofs.Ytllgjbkmemheoaa
open Go.RowKit Go.Maps
def nO : ByteArray := ⟨#[111, 119, 110]⟩
theorem own_list : nO.toList = [111, 119, 110] := by rw [ByteArray.toList_eq]; rfl
theorem okO : nameB nO = true := by decide
/-- A disk with power and room, of which one file is known. -/
structure Kp (d : DS) (f : Fl) (i : Nat) : Prop where
  q : d.q = 1048576
  left : d.left = -1
  off : d.off = false
  len : d.l.length ≤ i + 1
  tot : total d.l ≤ 300 * (i + 1)
  fnd : find nO d.l = some f
section
variable {d : DS} {f : Fl} {i : Nat} {nm tn : ByteArray} {p : List Int}
theorem spent_free' (h : d.left = -1) : d.spent = d := by unfold DS.spent; rw [if_neg (by omega), if_neg (by omega)]
theorem Kp.more (h : Kp d f i) : Kp d f (i + 1) := ⟨h.q, h.left, h.off, by have := h.len; omega, by have := h.tot; omega, h.fnd⟩
theorem lenO_dat (o : Option Fl) : lenO o = (datO o).length := by cases o <;> rfl
theorem Kp.app (hu : Up d.l) (h : Kp d f i) (hn : nm ≠ nO) (hp : p.length ≤ 300) : Kp (appS d nm p) f (i + 1) := by
  unfold appS
  rw [h.off, spent_free' h.left]
  split
  · exact h.more
  · split
    · exact h.more
    · split
      · exact h.more
      · split
        · exact h.more
        · have ht := total_putF ⟨nm, datO (find nm d.l) ++ p, kepO (find nm d.l)⟩ d.l hu
          have hl := length_putF ⟨nm, datO (find nm d.l) ++ p, kepO (find nm d.l)⟩ d.l hu
          have h1 := h.len
          have h2 := h.tot
          simp only [List.length_append, lenO_dat] at ht
          refine ⟨h.q, h.left, h.off, ?_, ?_, ?_⟩
          · simp only [hl]; split <;> omega
          · simp only; omega
          · simp only [find_putF _ _ _ hu]
            rw [if_neg (fun e => hn e.symm)]; exact h.fnd
theorem Kp.syn (hu : Up d.l) (h : Kp d f i) (hn : nm ≠ nO) : Kp (synS d nm) f (i + 1) := by
  unfold synS
  rw [h.off, spent_free' h.left]
  split
  · exact h.more
  · cases hf : find nm d.l with
    | none => exact h.more
    | some y =>
      simp only
      split
      · exact h.more
      · have ht := total_putF ⟨nm, y.dt, y.dt.length⟩ d.l hu
        have hl := length_putF ⟨nm, y.dt, y.dt.length⟩ d.l hu
        have h1 := h.len
        have h2 := h.tot
        simp only [hf, lenO] at ht
        refine ⟨h.q, h.left, h.off, ?_, ?_, ?_⟩
        · simp only [hl]; split <;> omega
        · simp only; omega
        · simp only [find_putF _ _ _ hu]
          rw [if_neg (fun e => hn e.symm)]; exact h.fnd
theorem Kp.ren (hu : Up d.l) (h : Kp d f i) (hn : nm ≠ nO) (ht : tn ≠ nO) : Kp (renS d nm tn) f (i + 1) := by
  unfold renS
  rw [h.off, spent_free' h.left]
  split
  · exact h.more
  · split
    · exact h.more
    · cases hf : find nm d.l with
      | none => exact h.more
      | some y =>
        simp only
        split
        · exact h.more
        · have h3 := total_putF ⟨tn, y.dt, y.kp⟩ (delF nm d.l) (up_delF hu)
          have h4 := total_delF nm d.l hu
          have h5 := length_putF ⟨tn, y.dt, y.kp⟩ (delF nm d.l) (up_delF hu)
          have h6 : (delF nm d.l).length ≤ d.l.length := List.length_filter_le _ _
          have h1 := h.len
          have h2 := h.tot
          rw [hf] at h4
          simp only [lenO] at h4
          refine ⟨h.q, h.left, h.off, ?_, ?_, ?_⟩
          · simp only [h5]; split <;> omega
          · simp only at h3 ⊢; omega
          · simp only [find_putF _ _ _ (up_delF hu)]
            rw [if_neg (fun e => ht e.symm), find_delF, if_neg (fun e => hn e.symm)]; exact h.fnd
theorem Kp.rem (hu : Up d.l) (h : Kp d f i) (hn : nm ≠ nO) : Kp (remS d nm) f (i + 1) := by
  unfold remS
  rw [h.off, spent_free' h.left]
  split
  · exact h.more
  · cases hf : find nm d.l with
    | none => exact h.more
    | some y =>
      simp only
      split
      · exact h.more
      · have h4 := total_delF nm d.l hu
        have h6 : (delF nm d.l).length ≤ d.l.length := List.length_filter_le _ _
        have h1 := h.len
        have h2 := h.tot
        refine ⟨h.q, h.left, h.off, ?_, ?_, ?_⟩
        · simp only; omega
        · simp only; omega
        · simp only [find_delF]
          rw [if_neg (fun e => hn e.symm)]; exact h.fnd
/-- The own file, begun. -/
theorem kp1 {z : List Int} (hz : z.length ≤ 300) : appE (newS 1048576) nO z = 0 ∧ appS (newS 1048576) nO z = ⟨1048576, [⟨nO, z, 0⟩], -1, false⟩ := by
  have h1 : ¬ (1048576 : Int) < (z.length : Int) := by omega
  simp [appE, appS, newS, okO, total, find, putF, datO, kepO, DS.spent, h1]
theorem kp2 (z : List Int) : synE ⟨1048576, [⟨nO, z, 0⟩], -1, false⟩ nO = 0 ∧ synS ⟨1048576, [⟨nO, z, 0⟩], -1, false⟩ nO = ⟨1048576, [⟨nO, z, z.length⟩], -1, false⟩ := by
  simp [synE, synS, find, putF, DS.spent]
theorem kp3 {z : List Int} (hz : z.length ≤ 300) : Kp ⟨1048576, [⟨nO, z, z.length⟩], -1, false⟩ ⟨nO, z, z.length⟩ 0 := ⟨rfl, rfl, rfl, by simp, by simp [total]; omega, by simp [find]⟩
/-- .. appended to. -/
theorem kp4 (h : Kp d f i) (hi : i ≤ 30) (hp : p.length ≤ 300) (hu : Up d.l) : appE d nO p = 0 ∧ find nO (appS d nO p).l = some ⟨nO, f.dt ++ p, f.kp⟩ ∧ (appS d nO p).l.length ≤ 100 := by
  have h2 := h.tot
  have h1 := h.len
  have hq : ¬ d.q < (total d.l : Int) + p.length := by rw [h.q]; omega
  have hl : ¬ d.left = 0 := by rw [h.left]; omega
  have e : appS d nO p = { d with l := putF ⟨nO, f.dt ++ p, f.kp⟩ d.l } := by unfold appS; rw [h.off, okO, h.fnd, spent_free' h.left]; simp [hq, hl, datO, kepO, h.off]
  refine ⟨by unfold appE; rw [h.off, okO]; simp [hq, hl], ?_, ?_⟩
  · rw [e]; simp only [find_putF _ _ _ hu, if_true]
  · rw [e]; simp only [length_putF _ _ hu]; split <;> omega
theorem find_tears (ps : List Int) (nm : ByteArray) : ∀ (i : Nat) (l : List Fl) (f : Fl), find nm l = some f → ∃ k, find nm (tears ps i l) = some (tear f (pickAt ps k))
  | i, x :: l, f, h => by
    unfold find at h
    split at h
    · rename_i e
      cases h
      exact ⟨i, by unfold tears find; rw [if_pos (show (tear x (pickAt ps i)).nm = nm from e)]⟩
    · rename_i e
      obtain ⟨k, hk⟩ := find_tears ps nm (i + 1) l f h
      exact ⟨k, by unfold tears find; rw [if_neg (show ¬ (tear x (pickAt ps i)).nm = nm from e)]; exact hk⟩
theorem pick_ge (ps : List Int) (k : Nat) : 0 ≤ pickAt ps k := by unfold pickAt; omega
/-- Behind a crash: what was kept, and a beginning of the rest. -/
theorem kp5 (ps z t : List Int) {l : List Fl} (h : find nO l = some ⟨nO, z ++ t, z.length⟩) : ∃ r, r ≤ t.length ∧ find nO (tears ps 0 l) = some ⟨nO, z ++ t.take r, z.length + r⟩ := by
  obtain ⟨k, hk⟩ := find_tears ps nO 0 l _ h
  have hp := pick_ge ps k
  have e : (((z ++ t).length : Nat) : Int) - (z.length : Nat) + 1 = (t.length : Int) + 1 := by rw [List.length_append]; omega
  have h1 := Int.emod_nonneg (pickAt ps k) (show (t.length : Int) + 1 ≠ 0 by omega)
  have h2 := Int.emod_lt_of_pos (pickAt ps k) (show 0 < (t.length : Int) + 1 by omega)
  refine ⟨(pickAt ps k % ((t.length : Int) + 1)).toNat, by omega, ?_⟩
  rw [hk]
  unfold tear
  simp only [e]
  rw [List.take_append]
  simp
  rw [List.take_of_length_le (by omega)]
/-- A second one changes nothing. -/
theorem kp6 (ps b : List Int) {l : List Fl} {k : Nat} (hk : k = b.length) (h : find nO l = some ⟨nO, b, k⟩) : find nO (tears ps 0 l) = some ⟨nO, b, k⟩ := by
  obtain ⟨j, hj⟩ := find_tears ps nO 0 l _ h
  rw [hj]
  unfold tear
  simp only [hk]
  have e : ((b.length : Int) - b.length + 1) = 1 := by omega
  rw [e, Int.emod_one]
  simp
end
/-- A call that changes the disk, whatever it answers. -/
def AnyP (W : World) (X : Nat → Prop) (g : Nat) (f : Fl) (i : Nat) (e : Ending) (w' : World) : Prop := ∃ x d', e = .returned (.int .i64 x) ∧ Lw W X w' g d' ∧ Kp d' f i
section
variable {W w : World} {X : Nat → Prop} {g : Nat} {d : DS} {f : Fl} {i : Nat} {nm tn : ByteArray} {A : Option Addr} {n c : Nat} {zs : List Int}
theorem app_k (L : Lw W X w g d) (h : Kp d f i) (hi : i ≤ 30) (ha : Arg X w A n c zs) (hn : nm ≠ nO) (hp : zs.length ≤ 300) (hs : nm.size ≤ 140737488351232) :
    Calls Try.prog 11 #[.pointer (some ⟨g, 0, none⟩), .string nm, .slice A n c] w (AnyP W X g f (i + 1)) :=
  (app_run L ha ⟨rfl, rfl⟩ hs (by have := h.len; omega)).mono fun _ _ ⟨h1, h2⟩ => ⟨_, _, h1, h2, h.app L.q.ok.up hn hp⟩
theorem syn_k (L : Lw W X w g d) (h : Kp d f i) (hn : nm ≠ nO) (hs : nm.size ≤ 140737488351232) :
    Calls Try.prog 12 #[.pointer (some ⟨g, 0, none⟩), .string nm] w (AnyP W X g f (i + 1)) :=
  (syn_run L ⟨rfl, rfl⟩ hs).mono fun _ _ ⟨h1, h2⟩ => ⟨_, _, h1, h2, h.syn L.q.ok.up hn⟩
theorem ren_k (L : Lw W X w g d) (h : Kp d f i) (hi : i ≤ 30) (hn : nm ≠ nO) (ht : tn ≠ nO) (hs : nm.size ≤ 140737488351232) (hst : tn.size ≤ 140737488351232) :
    Calls Try.prog 21 #[.pointer (some ⟨g, 0, none⟩), .string nm, .string tn] w (AnyP W X g f (i + 1)) :=
  (ren_run L ⟨rfl, rfl⟩ hs hst (by have := h.len; omega)).mono fun _ _ ⟨h1, h2⟩ => ⟨_, _, h1, h2, h.ren L.q.ok.up hn ht⟩
theorem rem_k (L : Lw W X w g d) (h : Kp d f i) (hn : nm ≠ nO) (hs : nm.size ≤ 140737488351232) :
    Calls Try.prog 22 #[.pointer (some ⟨g, 0, none⟩), .string nm] w (AnyP W X g f (i + 1)) :=
  (rem_run L ⟨rfl, rfl⟩ hs).mono fun _ _ ⟨h1, h2⟩ => ⟨_, _, h1, h2, h.rem L.q.ok.up hn⟩
theorem own_app {x : Int} {d' : DS} (L : Lw W X w g d) (ha : Arg X w A n c zs) (hx : appE d nO zs = x ∧ appS d nO zs = d') (hln : d.l.length < 9000000000) :
    Calls Try.prog 11 #[.pointer (some ⟨g, 0, none⟩), .string ⟨#[111, 119, 110]⟩, .slice A n c] w (RunP W X g x d') := app_run (nm := nO) L ha hx (by decide) hln
theorem own_syn {x : Int} {d' : DS} (L : Lw W X w g d) (hx : synE d nO = x ∧ synS d nO = d') : Calls Try.prog 12 #[.pointer (some ⟨g, 0, none⟩), .string ⟨#[111, 119, 110]⟩] w (RunP W X g x d') := syn_run (nm := nO) L hx (by decide)
theorem own_read {b : List Int} {k N : Nat} (L : Lw W X w g d) (hf : find nO d.l = some ⟨nO, b, k⟩) (hN : b.length = N) : Calls Try.prog 14 #[.pointer (some ⟨g, 0, none⟩), .string ⟨#[111, 119, 110]⟩] w fun e w' => ∃ A c, e = .returned (.tuple #[.slice A N c, .bool true]) ∧ Lr W X A b w' g d ∧ N ≤ c ∧ Below w.heap.size w w' :=
  (read_yes (nm := nO) L hf (by decide)).mono fun _ _ ⟨A, c, h1, h2, _, h3, h4⟩ => by subst hN; exact ⟨A, c, h1, h2, h3, h4⟩
theorem crash_k {ps : List Int} (L : Lw W X w g d) (h3 : IntsIn W A n c ps) (hn : n ≤ 30) (hl : d.l.length ≤ 100) {d' : DS} (hd : craS d ps = d') :
    Calls Try.prog 13 #[.pointer (some ⟨g, 0, none⟩), .slice A n c] w fun e w' => e = .returned (.tuple #[]) ∧ Lw W X w' g d' ∧ Kx X w w' :=
  (crash_q L.q (by omega) (h3.lies.below L.low) h3.len (by omega) (fun hn a ha => L.xs _ (by obtain ⟨b, off, e, hlt, _⟩ := h3.lies hn; rw [e] at ha; injection ha with ha; subst ha; exact hlt)) h3.ok).mono fun _ _ ⟨h1, h2, h3⟩ => ⟨h1, L.step (hd ▸ h2) h3, h3⟩
theorem cra_len (d : DS) (ps : List Int) : (craS d ps).l.length = d.l.length := tears_length ps 0 d.l
/-- The part behind the first k bytes. -/
theorem drop_lies {k N : Nat} (h : Lies w A zs) (hc : N ≤ c) (hN : zs.length = N) : Lies w (partA A c k) (zs.drop k) := h.rest (by omega) k
/-- A call of the list, in the midst of a walk. -/
theorem ask_at {m k : Nat} {it : Nat → As} (h : AsksIn W A m k it) (hb : Below W.heap.size W w) {j : Nat} (hj : j < m) : ∃ b off, A = some ⟨b, off, none⟩ ∧ b < W.heap.size ∧ AsAt w b off j (it j) ∧ AsOk W (it j) := by
  obtain ⟨b, off, e, hl, hc, ho⟩ := h.at_ j hj
  exact ⟨b, off, e, hl, hc.below hb hl, ho⟩
theorem beq_no {a b : ByteArray} (h : a ≠ b) : (a.toList == b.toList) = false := by
  have := eq_iff a b
  unfold eqB at this
  cases hh : (a.toList == b.toList)
  · rfl
  · exact absurd (this.1 hh) h
end
end Go.Proofs.Ytllgjbkmemheoaa
