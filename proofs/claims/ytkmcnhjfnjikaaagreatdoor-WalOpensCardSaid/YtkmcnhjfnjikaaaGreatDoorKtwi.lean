/- Chapter 8's runs. No condition. -/
import Derived.Test.YtkmcnhjfnjikaaaGreatDoorKtea
import Derived.Test.YtkmcnhjfnjikaaaGreatDoorKbas
import Derived.Deep.Slices
import Derived.Deep.Fields
import Derived.ChangeSame
namespace Go.Proofs.YtkmcnhjfnjikaaaGreatDoor
open Go.RowKit Go.Maps
def nA : ByteArray := ⟨#[97]⟩
def nB : ByteArray := ⟨#[98]⟩
theorem lt_ab : ltB nA nB = true := by unfold ltB nA nB; rw [ByteArray.toList_eq, ByteArray.toList_eq]; decide
theorem ne_ab : nA ≠ nB := by decide
theorem okA : nameB nA = true := by decide
theorem okB : nameB nB = true := by decide
def q1 : DS := ⟨9, [⟨nA, [1, 2, 3], 0⟩], -1, false⟩
def q2 : DS := ⟨9, [⟨nA, [1, 2, 3], 3⟩], -1, false⟩
def q3 : DS := ⟨9, [⟨nA, [1, 2, 3, 4, 5], 3⟩], -1, false⟩
def q4 : DS := ⟨9, [⟨nA, [1, 2, 3, 4], 4⟩], -1, false⟩
def q5 : DS := ⟨9, [⟨nA, [1, 2, 3, 4], 4⟩], 1, false⟩
def q6 : DS := ⟨9, [⟨nA, [1, 2, 3, 4], 4⟩, ⟨nB, [1], 0⟩], 0, false⟩
def q7 : DS := ⟨9, [⟨nA, [1, 2, 3, 4], 4⟩, ⟨nB, [1], 0⟩], 0, true⟩
theorem find_a (x : List Int) (k : Nat) (l : List Fl) : find nA (⟨nA, x, k⟩ :: l) = some ⟨nA, x, k⟩ := by simp [find]
theorem find_ab (x : List Int) (k : Nat) (l : List Fl) : find nB (⟨nA, x, k⟩ :: l) = find nB l := by simp [find, ne_ab]
theorem s1 : appS (newS 9) nA [1, 2, 3] = q1 := by simp [appS, newS, okA, find, putF, datO, kepO, DS.spent, q1, total]
theorem s2 : synS q1 nA = q2 := by simp [synS, q1, find_a, putF, DS.spent, q2]
theorem s3 : appS q2 nA [4, 5] = q3 := by simp [appS, q2, okA, find_a, putF, datO, kepO, DS.spent, q3, total]
theorem s4 : craS q3 [1] = q4 := by simp [craS, q3, q4, tears, tear, pickAt]; decide
theorem s5 : appE q4 nB [0, 0, 0, 0, 0, 0] = 7 ∧ appS q4 nB [0, 0, 0, 0, 0, 0] = q4 := by simp [appE, appS, q4, okB, total]
theorem s6 : armS q4 1 = q5 := by simp [armS, q4, q5]; decide
theorem s7 : appE q5 nB [1] = 0 ∧ appS q5 nB [1] = q6 := by simp [appE, appS, q5, okB, total, find_ab, find, putF, datO, kepO, DS.spent, ne_ab, lt_ab, q6]
theorem s8 : synE q6 nB = 10 ∧ synS q6 nB = q7 := by simp [synE, synS, q6, find_ab, find, DS.spent, q7]
/-- A step of the runs. -/
def RunP (W : World) (X : Nat → Prop) (g : Nat) (x : Int) (d : DS) (e : Ending) (w' : World) : Prop := e = .returned (.int .i64 x) ∧ Lw W X w' g d
def RunR (W : World) (X : Nat → Prop) (A : Option Addr) (zs : List Int) (g : Nat) (x : Int) (d : DS) (e : Ending) (w' : World) : Prop := e = .returned (.int .i64 x) ∧ Lr W X A zs w' g d
section
variable {W w : World} {X : Nat → Prop} {g : Nat} {A : Option Addr} {zs : List Int}
theorem lits_new (w : World) (zs : List Int) (t : TypeId) : Below w.heap.size w (w.alloc (.cells (cellsOf zs).toArray t)) ∧ Lies (w.alloc (.cells (cellsOf zs).toArray t)) (some ⟨w.heap.size, 0, none⟩) zs := ⟨kept_alloc (kept_refl w) _, lies_lit w zs t (0, 0)⟩
theorem oct_small {l : List Int} (h : l.all (fun z => 0 ≤ z && z ≤ 255) = true) : Octets l := fun z hz => by
  have := List.all_eq_true.1 h z hz
  simpa using this
theorem r1 (h : Lw W X w g (newS 9)) : Calls Tryz.prog 30 #[.pointer (some ⟨g, 0, none⟩), .string ⟨#[97]⟩, .slice (some ⟨w.heap.size, 0, none⟩) 3 3] (w.alloc (.cells #[.int .u8 1, .int .u8 2, .int .u8 3] 5)) (RunP W X g 0 q1) :=
  (append_new (nm := nA) (zs := [1, 2, 3]) h.q (lits_new w _ _).1 (by decide) rfl (fun h => by cases h) (lits_new w [1, 2, 3] _).2 (fun _ a ha => by injection ha with ha; subst ha; exact Nat.le_refl _) (oct_small (by decide)) (by unfold newS; decide)).mono fun e w' ⟨h1, h2, h3⟩ =>
    ⟨by rw [h1]; rfl, h.step (s1 ▸ h2) h3⟩
theorem r2 (h : Lw W X w g q1) : Calls Tryz.prog 81 #[.pointer (some ⟨g, 0, none⟩), .string ⟨#[97]⟩] w (RunP W X g 0 q2) :=
  (sync_q (nm := nA) h.q (by decide)).mono fun e w' ⟨h1, h2, h3⟩ => ⟨by rw [h1, show synE q1 nA = 0 by simp [synE, q1, find_a]], h.step (s2 ▸ h2) h3⟩
theorem r3 (h : Lw W X w g q2) : Calls Tryz.prog 30 #[.pointer (some ⟨g, 0, none⟩), .string ⟨#[97]⟩, .slice (some ⟨w.heap.size, 0, none⟩) 2 2] (w.alloc (.cells #[.int .u8 4, .int .u8 5] 5)) (RunP W X g 0 q3) :=
  (append_new (nm := nA) (zs := [4, 5]) h.q (lits_new w _ _).1 (by decide) rfl (fun h => by cases h) (lits_new w [4, 5] _).2 (fun _ a ha => by injection ha with ha; subst ha; exact Nat.le_refl _) (oct_small (by decide)) (by unfold q2; decide)).mono fun e w' ⟨h1, h2, h3⟩ =>
    ⟨by rw [h1, show appE q2 nA [4, 5] = 0 by simp [appE, q2, okA, total]], h.step (s3 ▸ h2) h3⟩
theorem r4 (h : Lw W X w g q3) : Calls Tryz.prog 24 #[.pointer (some ⟨g, 0, none⟩), .slice (some ⟨w.heap.size, 0, none⟩) 1 1] (w.alloc (.cells #[.int .i64 1] 3)) fun e w' => e = .returned (.tuple #[]) ∧ Lw W X w' g q4 :=
  (crash_new (ps := [1]) h.q (kept_alloc (kept_refl w) _) (by unfold q3; decide) (fun _ => ⟨w.heap.size, 0, rfl, by simp, fun k hk => by
      obtain rfl : k = 0 := Nat.lt_one_iff.1 hk
      exact (Row.new w 3 #[.int .i64 1]).cell 0⟩) rfl (by simp) (fun _ a ha => by injection ha with ha; subst ha; exact Nat.le_refl _) (fun p hp => by simp at hp; omega)).mono fun e w' ⟨h1, h2, h3⟩ => ⟨h1, h.step (s4 ▸ h2) h3⟩
theorem r5 (h : Lw W X w g q4) : Calls Tryz.prog 35 #[.pointer (some ⟨g, 0, none⟩), .string ⟨#[97]⟩] w fun e w' => ∃ A c, e = .returned (.tuple #[.slice A 4 c, .bool true]) ∧ Lr W X A [1, 2, 3, 4] w' g q4 :=
  (read_q (nm := nA) h.q (by decide)).mono fun e w' ⟨A, c, h1, h2, h3⟩ => by
    rw [show find nA q4.l = some ⟨nA, [1, 2, 3, 4], 4⟩ from find_a _ _ _] at h1 h2
    exact ⟨A, c, h1, h.read h2 h3⟩
theorem r6 (h : Lr W X A zs w g q4) (w1 : World) (hb : Below w.heap.size w w1) (hl : Lies w1 (some ⟨w.heap.size, 0, none⟩) [0, 0, 0, 0, 0, 0]) : Calls Tryz.prog 30 #[.pointer (some ⟨g, 0, none⟩), .string ⟨#[98]⟩, .slice (some ⟨w.heap.size, 0, none⟩) 6 6] w1 (RunR W X A zs g 7 q4) :=
  (append_new (nm := nB) (zs := [0, 0, 0, 0, 0, 0]) h.l.q hb (by decide) rfl (fun h => by cases h) hl (fun _ a ha => by injection ha with ha; subst ha; exact Nat.le_refl _) (oct_small (by decide)) (by unfold q4; decide)).mono fun e w' ⟨h1, h2, h3⟩ =>
    ⟨by rw [h1, s5.1], h.step (s5.2 ▸ h2) h3⟩
theorem r6' (h : Lr W X A zs w g q4) : Calls Tryz.prog 30 #[.pointer (some ⟨g, 0, none⟩), .string ⟨#[98]⟩, .slice (some ⟨w.heap.size, 0, none⟩) 6 6] (w.alloc (.cells #[.int .u8 0, .int .u8 0, .int .u8 0, .int .u8 0, .int .u8 0, .int .u8 0] 5)) (RunR W X A zs g 7 q4) :=
  r6 h _ (lits_new w [0, 0, 0, 0, 0, 0] _).1 (lits_new w [0, 0, 0, 0, 0, 0] _).2
theorem r10 {c : Nat} (h : Lr W X A [1, 2, 3, 4] w g q7) : Calls Tryz.prog 58 #[.slice A 4 c, .slice (some ⟨w.heap.size, 0, none⟩) 4 4] (w.alloc (.cells #[.int .u8 1, .int .u8 2, .int .u8 3, .int .u8 4] 5)) fun e w' => e = .returned (.bool true) ∧ Lw W (plus X A) w' g q7 := by
  have hb := (lits_new w [1, 2, 3, 4] 5).1
  refine (same_any A _ 4 4 c 4 [1, 2, 3, 4] [1, 2, 3, 4] _ rfl rfl (h.lies.below hb) (lits_new w [1, 2, 3, 4] 5).2 (by omega) (by omega)).mono fun e w' ⟨h1, q, h2⟩ => ⟨by rw [h1]; rfl, ?_⟩
  rw [h2]
  exact h.l.below (kept_drewN hb q)
theorem r7 (h : Lr W X A zs w g q4) : Calls Tryz.prog 22 #[.pointer (some ⟨g, 0, none⟩), .int .i64 1] w fun e w' => e = .returned (.tuple #[]) ∧ Lr W X A zs w' g q5 :=
  (arm_q h.l.q (by omega)).mono fun e w' ⟨h1, h2, h3⟩ => ⟨h1, h.step (s6 ▸ h2) h3⟩
theorem r8 (h : Lr W X A zs w g q5) : Calls Tryz.prog 30 #[.pointer (some ⟨g, 0, none⟩), .string ⟨#[98]⟩, .slice (some ⟨w.heap.size, 0, none⟩) 1 1] (w.alloc (.cells #[.int .u8 1] 5)) (RunR W X A zs g 0 q6) :=
  (append_new (nm := nB) (zs := [1]) h.l.q (lits_new w _ _).1 (by decide) rfl (fun h => by cases h) (lits_new w [1] _).2 (fun _ a ha => by injection ha with ha; subst ha; exact Nat.le_refl _) (oct_small (by decide)) (by unfold q5; decide)).mono fun e w' ⟨h1, h2, h3⟩ =>
    ⟨by rw [h1, s7.1], h.step (s7.2 ▸ h2) h3⟩
theorem r9 (h : Lr W X A zs w g q6) : Calls Tryz.prog 81 #[.pointer (some ⟨g, 0, none⟩), .string ⟨#[98]⟩] w (RunR W X A zs g 10 q7) :=
  (sync_q (nm := nB) h.l.q (by decide)).mono fun e w' ⟨h1, h2, h3⟩ => ⟨by rw [h1, s8.1], h.step (s8.2 ▸ h2) h3⟩
end
end Go.Proofs.YtkmcnhjfnjikaaaGreatDoor
/- The disk's calls once more, as a law's walk wants them: each answer by its value. Conditions as the calls' own. -/
namespace Go.Proofs.YtkmcnhjfnjikaaaGreatDoor
open Go.RowKit Go.Maps
theorem not_none {a : Addr} {m : Nat} (h : (some a : Option Addr) = none) : m = 0 := by cases h
theorem alloc_le (w : World) (o : Obj) : w.heap.size ≤ (w.alloc o).heap.size := by simp
section
variable {W w : World} {X : Nat → Prop} {g : Nat} {A : Option Addr} {zs : List Int} {n c : Nat} {d d' : DS} {nm tn : ByteArray} {x : Int}
theorem SliceIn.inX (h : SliceIn W A n c zs) (hX : ∀ k, k < W.heap.size → X k) : InX X A zs := fun hn a ha => by
  obtain ⟨b, off, e, hlt, _⟩ := h.lies hn
  rw [e] at ha; injection ha with ha; subst ha; exact hX _ hlt
/-- What an argument of bytes is good for in the midst of a walk. -/
structure Arg (X : Nat → Prop) (w : World) (A : Option Addr) (n c : Nat) (zs : List Int) : Prop where
  len : zs.length = n
  lies : Lies w A zs
  inx : InX X A zs
  oct : Octets zs
  nil : A = none → c = 0
theorem SliceIn.arg (h : SliceIn W A n c zs) (L : Lw W X w g d) : Arg X w A n c zs := ⟨h.len, h.lies.below L.low, h.inX L.xs, h.oct, h.nil⟩
theorem app_run (L : Lw W X w g d) (ha : Arg X w A n c zs) (hx : appE d nm zs = x ∧ appS d nm zs = d') (hs : nm.size ≤ 140737488351232) (hln : d.l.length < 9000000000) :
    Calls Tryz.prog 30 #[.pointer (some ⟨g, 0, none⟩), .string nm, .slice A n c] w (RunP W X g x d') :=
  (append_q L.q hs ha.len ha.nil ha.lies ha.inx ha.oct hln).mono fun e w' ⟨h1, h2, h3⟩ => ⟨by rw [h1, hx.1], L.step (hx.2 ▸ h2) h3⟩
theorem app_one (L : Lw W X w g d) (hx : appE d nm [1] = x ∧ appS d nm [1] = d') (hs : nm.size ≤ 140737488351232) (hln : d.l.length < 9000000000) :
    Calls Tryz.prog 30 #[.pointer (some ⟨g, 0, none⟩), .string nm, .slice (some ⟨w.heap.size, 0, none⟩) 1 1] (w.alloc (.cells #[.int .u8 1] 5)) (RunP W X g x d') :=
  (append_new (zs := [1]) L.q (lits_new w _ _).1 hs rfl (fun h => by cases h) (lits_new w [1] _).2 (fun _ a ha => by injection ha with ha; subst ha; exact Nat.le_refl _) (oct_small (by decide)) hln).mono fun e w' ⟨h1, h2, h3⟩ =>
    ⟨by rw [h1, hx.1], L.step (hx.2 ▸ h2) h3⟩
theorem syn_run (L : Lw W X w g d) (hx : synE d nm = x ∧ synS d nm = d') (hs : nm.size ≤ 140737488351232) :
    Calls Tryz.prog 81 #[.pointer (some ⟨g, 0, none⟩), .string nm] w (RunP W X g x d') :=
  (sync_q L.q (by unfold maxLen; omega)).mono fun e w' ⟨h1, h2, h3⟩ => ⟨by rw [h1, hx.1], L.step (hx.2 ▸ h2) h3⟩
theorem rem_run (L : Lw W X w g d) (hx : remE d nm = x ∧ remS d nm = d') (hs : nm.size ≤ 140737488351232) :
    Calls Tryz.prog 80 #[.pointer (some ⟨g, 0, none⟩), .string nm] w (RunP W X g x d') :=
  (remove_q L.q (by unfold maxLen; omega)).mono fun e w' ⟨h1, h2, h3⟩ => ⟨by rw [h1, hx.1], L.step (hx.2 ▸ h2) h3⟩
/-- What Read hands over: where there is a file, and where there is none. -/
def RdP (W : World) (X : Nat → Prop) (w : World) (g : Nat) (d : DS) (zs : List Int) (t : Bool) (e : Ending) (w' : World) : Prop := ∃ A c, e = .returned (.tuple #[.slice A zs.length c, .bool t]) ∧ Lr W X A zs w' g d ∧ (A = none → c = 0) ∧ zs.length ≤ c ∧ Below w.heap.size w w'
theorem read_run {o : Option Fl} (L : Lw W X w g d) (hf : find nm d.l = o) (hs : nm.size ≤ 140737488351232) : Calls Tryz.prog 35 #[.pointer (some ⟨g, 0, none⟩), .string nm] w (RdP W X w g d (datO o) o.isSome) :=
  (read_q L.q (by unfold maxLen; omega)).mono fun e w' ⟨A, c, h1, h2, h3⟩ => by
    rw [hf] at h1 h2
    refine ⟨A, c, h1, L.read h2 h3, fun e => ?_, (own_len h2).2, h3⟩
    rcases h2.2 with ⟨hv, _⟩ | ⟨q, cap, cur, hv, _⟩
    · injection hv
    · injection hv with e1; rw [e] at e1; cases e1
theorem read_yes {f : Fl} (L : Lw W X w g d) (hf : find nm d.l = some f) (hs : nm.size ≤ 140737488351232) : Calls Tryz.prog 35 #[.pointer (some ⟨g, 0, none⟩), .string nm] w (RdP W X w g d f.dt true) := read_run L hf hs
theorem read_no (L : Lw W X w g d) (hf : find nm d.l = none) (hs : nm.size ≤ 140737488351232) : Calls Tryz.prog 35 #[.pointer (some ⟨g, 0, none⟩), .string nm] w fun e w' => ∃ A c, e = .returned (.tuple #[.slice A 0 c, .bool false]) ∧ Lw W X w' g d ∧ Below w.heap.size w w' :=
  (read_run L hf hs).mono fun _ _ ⟨A, c, h1, h2, _, _, h3⟩ => ⟨A, c, h1, ⟨h2.l.low, h2.l.q.less fun _ hk => .inl hk, L.xs⟩, h3⟩
theorem Lr.drop (h : Lr W X A zs w g d) (hX : ∀ k, k < W.heap.size → X k) : Lw W X w g d := ⟨h.l.low, h.l.q.less fun _ hk => .inl hk, hX⟩
theorem same_run {B : Option Addr} {m k : Nat} {ys : List Int} (L : Lw W X w g d) (hz : Lies w A zs) (hy : Lies w B ys) (hn : zs.length = n) (hm : ys.length = m) (l1 : n ≤ 4611686018427387904) (l2 : m ≤ 4611686018427387904) {t : Bool} (ht : decide (zs = ys) = t) :
    Calls Tryz.prog 58 #[.slice A n c, .slice B m k] w fun e w' => e = .returned (.bool t) ∧ Lw W X w' g d ∧ Below w.heap.size w w' :=
  (same_any A B n m c k zs ys w hn hm hz hy l1 l2).mono fun e w' ⟨h1, q, h2⟩ => ⟨by rw [h1, ht], by rw [h2]; exact L.below (kept_drewN (kept_refl w) q), by rw [h2]; exact kept_drewN (kept_refl w) q⟩
end
end Go.Proofs.YtkmcnhjfnjikaaaGreatDoor
/- Slices of slices of bytes, of ints, of calls that come in. No condition. -/
namespace Go.Proofs.YtkmcnhjfnjikaaaGreatDoor
open Go.ChangeShapes Go.WideShapes Go.ChangeAt Go.RowKit Go.Joins
theorem weights_all {H : Type} {P : Program} {e : TypeId} : ∀ {ds : List (DataW H)} {d : DataW H}, d ∈ ds → ∀ n ∈ d.weights P e, n ∈ DataW.weightsAll P e ds
  | x :: r, d, hd, n, hn => by
    rw [DataW.weightsAll, List.mem_append]
    rcases List.mem_cons.1 hd with rfl | hd
    · exact .inl hn
    · exact .inr (weights_all hd n hn)
theorem Tryz.cells3 : Tryz.prog.cellsOf 3 = 1 := by kernel_rfl
theorem Tryz.cells9 : Tryz.prog.cellsOf 9 = 1 := by kernel_rfl
theorem Tryz.cells31 : Tryz.prog.cellsOf 31 = 1 := by kernel_rfl
theorem Tryz.cells44 : Tryz.prog.cellsOf 44 = 1 := by kernel_rfl
section
variable {H : Type} {enc : TypeId × Value → H} {W : World}
/-- One slice of bytes, out of its reading. -/
theorem bytes_cell {fuel : Nat} {cs : List Value} {x : DataW H × List MemPlace} (ht : DataW.trod enc Tryz.prog W 0 (fun _ => true) true fuel 31 cs = some x) (hsz : ∀ n ∈ x.1.weights Tryz.prog 31, n ≤ reachBytes) :
    ∃ A n c zs, cs = [.slice A n c] ∧ SliceIn W A n c zs := by
  rcases open_ints Tryz.underlying31 Tryz.underlying5 Tryz.cells5 ht with ⟨rfl, _⟩ | ⟨a, l, c', zs, rfl, _, hl, _, hz, hx, hcell, hwz⟩
  · exact ⟨none, 0, 0, [], rfl, rfl, Nat.le_refl _, by omega, fun z hz => (by cases hz), Lies.none_, fun _ => rfl⟩
  · have hz' : zs.length = c' := by simpa using hz
    rw [hx] at hsz
    have hs := hsz ((zs.take l).length + (zs.drop l).length) (by
      unfold DataW.weights
      rw [Tryz.underlying31]
      simp only
      rw [Tryz.bytes5, Nat.mul_one, length_lits, length_lits]
      exact List.mem_cons_self ..)
    rw [List.length_take, List.length_drop] at hs
    have hr : reachBytes = 140737488351232 := rfl
    refine ⟨some a, l, c', zs.take l, rfl, by rw [List.length_take]; omega, hl, by omega, fun z hz => ?_, fun hn => ?_, fun h => by cases h⟩
    · exact bounds_u8 (hwz z (List.mem_of_mem_take hz))
    · rw [List.length_take] at hn
      obtain ⟨b, off, rfl, hc⟩ := ints_at hcell (by omega)
      have h0 := hc 0 (by omega)
      refine ⟨b, off, rfl, ?_, fun k hk => ?_⟩
      · rcases Nat.lt_or_ge b W.heap.size with h1 | h1
        · exact h1
        · simp [World.cell?, Array.getElem?_eq_none h1] at h0
      · rw [List.length_take] at hk
        have e : ix (zs.take l) k = zs.getD k 0 := by
          rw [ix_lt _ (by rw [List.length_take]; omega), List.getElem_take, ← ix_lt zs (by omega)]; rfl
        rw [e]
        exact hc k (by omega)
/-- A slice of ints that came in. -/
structure IntsIn (w : World) (A : Option Addr) (n c : Nat) (ps : List Int) : Prop where
  len : ps.length = n
  le : n ≤ c
  room : c ≤ 9223372036854775807
  ok : ∀ p, p ∈ ps → -9223372036854775808 ≤ p ∧ p ≤ 9223372036854775807
  lies : LiesI w A ps
theorem ints_cell {fuel : Nat} {cs : List Value} {x : DataW H × List MemPlace} (ht : DataW.trod enc Tryz.prog W 0 (fun _ => true) true fuel 44 cs = some x) : ∃ A n c ps, cs = [.slice A n c] ∧ IntsIn W A n c ps := by
  rcases open_ints Tryz.underlying44 Tryz.underlying3 Tryz.cells3 ht with ⟨rfl, _⟩ | ⟨a, l, c', zs, rfl, _, hl, hm, hz, hx, hcell, hwz⟩
  · exact ⟨none, 0, 0, [], rfl, rfl, Nat.le_refl _, by omega, fun z hz => (by cases hz), fun h => absurd h (by simp)⟩
  · have hz' : zs.length = c' := by simpa using hz
    refine ⟨some a, l, c', zs.take l, rfl, by rw [List.length_take]; omega, hl, by unfold maxLen at hm; omega, fun z hz => bounds_i64 (hwz z (List.mem_of_mem_take hz)), fun hn => ?_⟩
    rw [List.length_take] at hn
    obtain ⟨b, off, rfl, hc⟩ := ints_at hcell (by omega)
    have h0 := hc 0 (by omega)
    refine ⟨b, off, rfl, ?_, fun k hk => ?_⟩
    · rcases Nat.lt_or_ge b W.heap.size with h1 | h1
      · exact h1
      · simp [World.cell?, Array.getElem?_eq_none h1] at h0
    · rw [List.length_take] at hk
      have e : ix (zs.take l) k = zs.getD k 0 := by
        rw [ix_lt _ (by rw [List.length_take]; omega), List.getElem_take, ← ix_lt zs (by omega)]; rfl
      rw [e]
      exact hc k (by omega)
theorem dints_in {A : Option Addr} {n c : Nat} {d : DataW H} {p : List MemPlace} (h : DataW.Trod enc Tryz.prog W 0 (fun _ => true) true 44 (.slice A n c) d p) : ∃ ps, IntsIn W A n c ps := by
  obtain ⟨fuel, hf⟩ := h
  obtain ⟨A', n', c', ps, e, hi⟩ := ints_cell hf
  simp [Value.cells] at e
  obtain ⟨rfl, rfl, rfl⟩ := e
  exact ⟨ps, hi⟩
/-- A slice of bytes: its parts. -/
structure Sb where
  A : Option Addr
  n : Nat
  c : Nat
  zs : List Int
/-- A slice of slices of bytes that came in. -/
structure PartsIn (w : World) (A : Option Addr) (n c : Nat) (it : Nat → Sb) : Prop where
  le : n ≤ c
  room : c ≤ 9223372036854775807
  at_ : ∀ j, j < n → ∃ b off, A = some ⟨b, off, none⟩ ∧ b < w.heap.size ∧ w.cell? ⟨b, off + j, none⟩ = some (.slice (it j).A (it j).n (it j).c) ∧ SliceIn w (it j).A (it j).n (it j).c (it j).zs
set_option maxRecDepth 100000 in
theorem parts_in {A : Option Addr} {n c : Nat} {d : DataW H} {p : List MemPlace} {ts : List TypeId} {ds : List (DataW H)} {j : Nat}
    (h : DataW.Trod enc Tryz.prog W 0 (fun _ => true) true 27 (.slice A n c) d p) (hsz : (DataW.weightsEach Tryz.prog ts ds).all (· ≤ reachBytes) = true) (ht : ts[j]? = some 27) (hd : ds[j]? = some d) : ∃ it, PartsIn W A n c it := by
  obtain ⟨fuel, hf⟩ := h
  have hw : ∀ n ∈ d.weights Tryz.prog 27, n ≤ reachBytes := fun n hn => by
    have := List.all_eq_true.1 hsz _ (DataW.weights_mem_each ht hd n hn)
    simpa using this
  rcases Go.Deep.open_slice Tryz.underlying27 hf with ⟨hcs, _⟩ | ⟨a, len, cap, m, nf, D, Pl, hcs, _, hl, hm, hmm, hx, hi⟩
  · simp [Value.cells] at hcs
    obtain ⟨rfl, rfl, rfl⟩ := hcs
    exact ⟨fun _ => ⟨none, 0, 0, []⟩, Nat.le_refl _, by omega, fun j hj => absurd hj (by omega)⟩
  · simp [Value.cells] at hcs
    obtain ⟨rfl, rfl, rfl⟩ := hcs
    have hmc : m = c := by simpa using hmm
    simp only [Prod.mk.injEq] at hx
    have hx1 := hx.1
    have each : ∀ j, j < n → ∃ x : Sb, SliceIn W x.A x.n x.c x.zs ∧ ∃ b off, a = ⟨b, off, none⟩ ∧ b < W.heap.size ∧ W.cell? ⟨b, off + j, none⟩ = some (.slice x.A x.n x.c) := by
      intro j hj
      obtain ⟨cs', hc, ht'⟩ := hi j (by omega)
      rw [Tryz.cells31] at hc
      obtain ⟨_, hlen, hat⟩ := World.cells?_some hc
      obtain ⟨B, k, e, zs, rfl, hs⟩ := bytes_cell ht' fun k hk => by
        apply hw
        rw [hx1]
        unfold DataW.weights
        rw [Tryz.underlying27]
        refine List.mem_cons_of_mem _ (List.mem_append_left _ (weights_all (d := D j) ?_ k hk))
        exact List.mem_map.2 ⟨j, List.mem_range.2 hj, rfl⟩
      have a0 := hat 0 (by omega)
      have hsp : a.spot = none := by
        obtain ⟨cs0, hc0, ht0⟩ := hi 0 (by omega)
        rw [Tryz.cells31] at hc0
        obtain ⟨_, hlen0, hat0⟩ := World.cells?_some hc0
        have h0 := hat0 0 (by omega)
        rw [List.getElem?_eq_getElem (by omega)] at h0
        have := World.cell?_spot h0
        unfold Addr.add at this
        simpa using this
      obtain ⟨b, off, spot⟩ := a
      obtain rfl : spot = none := hsp
      rw [Go.WideShapes.add_plain, Go.WideShapes.add_plain] at a0
      simp only [Nat.mul_one, Nat.add_zero] at a0
      refine ⟨⟨B, k, e, zs⟩, hs, b, off, rfl, ?_, a0⟩
      rcases Nat.lt_or_ge b W.heap.size with h1 | h1
      · exact h1
      · simp [World.cell?, Array.getElem?_eq_none h1] at a0
    refine ⟨fun j => if h : j < n then Classical.choose (each j h) else ⟨none, 0, 0, []⟩, hl, hm, fun j hj => ?_⟩
    obtain ⟨hs, b, off, rfl, hb, hx⟩ := Classical.choose_spec (each j hj)
    refine ⟨b, off, rfl, hb, ?_, ?_⟩
    · simp only [dif_pos hj]; exact hx
    · simp only [dif_pos hj]; exact hs
/-- A call. -/
structure As where
  k : Int
  n : Int
  nm : ByteArray
  tn : ByteArray
  d : Sb
  p : Sb
structure AsOk (W : World) (x : As) : Prop where
  k : -9223372036854775808 ≤ x.k ∧ x.k ≤ 9223372036854775807
  n : -9223372036854775808 ≤ x.n ∧ x.n ≤ 9223372036854775807
  nm : x.nm.size ≤ 140737488351232
  tn : x.tn.size ≤ 140737488351232
  d : SliceIn W x.d.A x.d.n x.d.c x.d.zs
  p : IntsIn W x.p.A x.p.n x.p.c x.p.zs
def As.l (x : As) : List Value := [.int .i64 x.k, .int .i64 x.n, .string x.nm, .string x.tn, .slice x.d.A x.d.n x.d.c, .slice x.p.A x.p.n x.p.c]
/-- What lies at call j of a slice that begins at ⟨b, off⟩. -/
structure AsAt (w : World) (b off j : Nat) (x : As) : Prop where
  c0 : w.cell? ⟨b, off + j * 6, none⟩ = some (.int .i64 x.k)
  c1 : w.cell? ⟨b, off + j * 6 + 1, none⟩ = some (.int .i64 x.n)
  c2 : w.cell? ⟨b, off + j * 6 + 2, none⟩ = some (.string x.nm)
  c3 : w.cell? ⟨b, off + j * 6 + 3, none⟩ = some (.string x.tn)
  c4 : w.cell? ⟨b, off + j * 6 + 4, none⟩ = some (.slice x.d.A x.d.n x.d.c)
  c5 : w.cell? ⟨b, off + j * 6 + 5, none⟩ = some (.slice x.p.A x.p.n x.p.c)
theorem AsAt.below {w w' : World} {B b off j : Nat} {x : As} (h : AsAt w b off j x) (hb : Below B w w') (hl : b < B) : AsAt w' b off j x :=
  ⟨(hb.cell (p := ⟨b, off + j * 6, none⟩) hl).trans h.c0, (hb.cell (p := ⟨b, off + j * 6 + 1, none⟩) hl).trans h.c1, (hb.cell (p := ⟨b, off + j * 6 + 2, none⟩) hl).trans h.c2, (hb.cell (p := ⟨b, off + j * 6 + 3, none⟩) hl).trans h.c3,
    (hb.cell (p := ⟨b, off + j * 6 + 4, none⟩) hl).trans h.c4, (hb.cell (p := ⟨b, off + j * 6 + 5, none⟩) hl).trans h.c5⟩
/-- A slice of calls that came in. -/
structure AsksIn (w : World) (A : Option Addr) (n c : Nat) (it : Nat → As) : Prop where
  le : n ≤ c
  room : c ≤ 9223372036854775807
  at_ : ∀ j, j < n → ∃ b off, A = some ⟨b, off, none⟩ ∧ b < w.heap.size ∧ AsAt w b off j (it j) ∧ AsOk w (it j)
end
end Go.Proofs.YtkmcnhjfnjikaaaGreatDoor
/- Parts that came in, in the midst of a walk. No condition. -/
namespace Go.Proofs.YtkmcnhjfnjikaaaGreatDoor
open Go.RowKit Go.Maps
/-- A part, cut to so many. -/
theorem cut_arg (k : Nat) {W w : World} {X : Nat → Prop} {A : Option Addr} {n c : Nat} {zs : List Int} (h : SliceIn W A n c zs) (hb : Below W.heap.size W w) (hX : ∀ b, b < W.heap.size → X b) : Arg X w A (min k n) c (zs.take k) :=
  ⟨by rw [List.length_take, h.len], (h.lies.take k).below hb, fun hn a ha => (h.inX hX) (by rw [List.length_take] at hn; omega) a ha, fun z hz => h.oct z (List.mem_of_mem_take hz), h.nil⟩
/-- The round's part and what it makes. -/
theorem part_cell {W w : World} {A : Option Addr} {m c : Nat} {it : Nat → Sb} (h : PartsIn W A m c it) (hb : Below W.heap.size W w) {i : Nat} (hi : i < m) : ∃ b off, A = some ⟨b, off, none⟩ ∧ w.cell? ⟨b, off + i, none⟩ = some (.slice (it i).A (it i).n (it i).c) ∧ SliceIn W (it i).A (it i).n (it i).c (it i).zs := by
  obtain ⟨b, off, e, hl, hc, hs⟩ := h.at_ i hi
  exact ⟨b, off, e, (hb.cell (p := ⟨b, off + i, none⟩) hl).trans hc, hs⟩
end Go.Proofs.YtkmcnhjfnjikaaaGreatDoor
/- What the law on what is kept comes to, in plain words. No condition. -/
namespace Go.Proofs.YtkmcnhjfnjikaaaGreatDoor
open Go.RowKit Go.Maps
def nO : ByteArray := ⟨#[111, 119, 110]⟩
theorem own_list : nO.toList = [111, 119, 110] := by rw [ByteArray.toList_eq]; rfl
theorem okO : nameB nO = true := by decide
/-- A disk with power and room, of which one file is known. -/
structure Kp (d : DS) (f : Fl) (i : Nat) : Prop where
  q : d.q = 1048576
  left : d.left = -1
  off : d.off = false
  len : d.l.length ≤ i + 1
  tot : total d.l ≤ 300 * (i + 1)
  fnd : find nO d.l = some f
section
variable {d : DS} {f : Fl} {i : Nat} {nm tn : ByteArray} {p : List Int}
theorem spent_free' (h : d.left = -1) : d.spent = d := by unfold DS.spent; rw [if_neg (by omega), if_neg (by omega)]
theorem Kp.more (h : Kp d f i) : Kp d f (i + 1) := ⟨h.q, h.left, h.off, by have := h.len; omega, by have := h.tot; omega, h.fnd⟩
theorem lenO_dat (o : Option Fl) : lenO o = (datO o).length := by cases o <;> rfl
theorem Kp.app (hu : Up d.l) (h : Kp d f i) (hn : nm ≠ nO) (hp : p.length ≤ 300) : Kp (appS d nm p) f (i + 1) := by
  unfold appS
  rw [h.off, spent_free' h.left]
  split
  · exact h.more
  · split
    · exact h.more
    · split
      · exact h.more
      · split
        · exact h.more
        · have ht := total_putF ⟨nm, datO (find nm d.l) ++ p, kepO (find nm d.l)⟩ d.l hu
          have hl := length_putF ⟨nm, datO (find nm d.l) ++ p, kepO (find nm d.l)⟩ d.l hu
          have h1 := h.len
          have h2 := h.tot
          simp only [List.length_append, lenO_dat] at ht
          refine ⟨h.q, h.left, h.off, ?_, ?_, ?_⟩
          · simp only [hl]; split <;> omega
          · simp only; omega
          · simp only [find_putF _ _ _ hu]
            rw [if_neg (fun e => hn e.symm)]; exact h.fnd
theorem Kp.syn (hu : Up d.l) (h : Kp d f i) (hn : nm ≠ nO) : Kp (synS d nm) f (i + 1) := by
  unfold synS
  rw [h.off, spent_free' h.left]
  split
  · exact h.more
  · cases hf : find nm d.l with
    | none => exact h.more
    | some y =>
      simp only
      split
      · exact h.more
      · have ht := total_putF ⟨nm, y.dt, y.dt.length⟩ d.l hu
        have hl := length_putF ⟨nm, y.dt, y.dt.length⟩ d.l hu
        have h1 := h.len
        have h2 := h.tot
        simp only [hf, lenO] at ht
        refine ⟨h.q, h.left, h.off, ?_, ?_, ?_⟩
        · simp only [hl]; split <;> omega
        · simp only; omega
        · simp only [find_putF _ _ _ hu]
          rw [if_neg (fun e => hn e.symm)]; exact h.fnd
theorem Kp.ren (hu : Up d.l) (h : Kp d f i) (hn : nm ≠ nO) (ht : tn ≠ nO) : Kp (renS d nm tn) f (i + 1) := by
  unfold renS
  rw [h.off, spent_free' h.left]
  split
  · exact h.more
  · split
    · exact h.more
    · cases hf : find nm d.l with
      | none => exact h.more
      | some y =>
        simp only
        split
        · exact h.more
        · have h3 := total_putF ⟨tn, y.dt, y.kp⟩ (delF nm d.l) (up_delF hu)
          have h4 := total_delF nm d.l hu
          have h5 := length_putF ⟨tn, y.dt, y.kp⟩ (delF nm d.l) (up_delF hu)
          have h6 : (delF nm d.l).length ≤ d.l.length := List.length_filter_le _ _
          have h1 := h.len
          have h2 := h.tot
          rw [hf] at h4
          simp only [lenO] at h4
          refine ⟨h.q, h.left, h.off, ?_, ?_, ?_⟩
          · simp only [h5]; split <;> omega
          · simp only at h3 ⊢; omega
          · simp only [find_putF _ _ _ (up_delF hu)]
            rw [if_neg (fun e => ht e.symm), find_delF, if_neg (fun e => hn e.symm)]; exact h.fnd
theorem Kp.rem (hu : Up d.l) (h : Kp d f i) (hn : nm ≠ nO) : Kp (remS d nm) f (i + 1) := by
  unfold remS
  rw [h.off, spent_free' h.left]
  split
  · exact h.more
  · cases hf : find nm d.l with
    | none => exact h.more
    | some y =>
      simp only
      split
      · exact h.more
      · have h4 := total_delF nm d.l hu
        have h6 : (delF nm d.l).length ≤ d.l.length := List.length_filter_le _ _
        have h1 := h.len
        have h2 := h.tot
        refine ⟨h.q, h.left, h.off, ?_, ?_, ?_⟩
        · simp only; omega
        · simp only; omega
        · simp only [find_delF]
          rw [if_neg (fun e => hn e.symm)]; exact h.fnd
/-- The own file, begun. -/
theorem kp1 {z : List Int} (hz : z.length ≤ 300) : appE (newS 1048576) nO z = 0 ∧ appS (newS 1048576) nO z = ⟨1048576, [⟨nO, z, 0⟩], -1, false⟩ := by
  have h1 : ¬ (1048576 : Int) < (z.length : Int) := by omega
  simp [appE, appS, newS, okO, total, find, putF, datO, kepO, DS.spent, h1]
theorem kp2 (z : List Int) : synE ⟨1048576, [⟨nO, z, 0⟩], -1, false⟩ nO = 0 ∧ synS ⟨1048576, [⟨nO, z, 0⟩], -1, false⟩ nO = ⟨1048576, [⟨nO, z, z.length⟩], -1, false⟩ := by
  simp [synE, synS, find, putF, DS.spent]
theorem kp3 {z : List Int} (hz : z.length ≤ 300) : Kp ⟨1048576, [⟨nO, z, z.length⟩], -1, false⟩ ⟨nO, z, z.length⟩ 0 := ⟨rfl, rfl, rfl, by simp, by simp [total]; omega, by simp [find]⟩
/-- .. appended to. -/
theorem kp4 (h : Kp d f i) (hi : i ≤ 30) (hp : p.length ≤ 300) (hu : Up d.l) : appE d nO p = 0 ∧ find nO (appS d nO p).l = some ⟨nO, f.dt ++ p, f.kp⟩ ∧ (appS d nO p).l.length ≤ 100 := by
  have h2 := h.tot
  have h1 := h.len
  have hq : ¬ d.q < (total d.l : Int) + p.length := by rw [h.q]; omega
  have hl : ¬ d.left = 0 := by rw [h.left]; omega
  have e : appS d nO p = { d with l := putF ⟨nO, f.dt ++ p, f.kp⟩ d.l } := by unfold appS; rw [h.off, okO, h.fnd, spent_free' h.left]; simp [hq, hl, datO, kepO, h.off]
  refine ⟨by unfold appE; rw [h.off, okO]; simp [hq, hl], ?_, ?_⟩
  · rw [e]; simp only [find_putF _ _ _ hu, if_true]
  · rw [e]; simp only [length_putF _ _ hu]; split <;> omega
theorem find_tears (ps : List Int) (nm : ByteArray) : ∀ (i : Nat) (l : List Fl) (f : Fl), find nm l = some f → ∃ k, find nm (tears ps i l) = some (tear f (pickAt ps k))
  | i, x :: l, f, h => by
    unfold find at h
    split at h
    · rename_i e
      cases h
      exact ⟨i, by unfold tears find; rw [if_pos (show (tear x (pickAt ps i)).nm = nm from e)]⟩
    · rename_i e
      obtain ⟨k, hk⟩ := find_tears ps nm (i + 1) l f h
      exact ⟨k, by unfold tears find; rw [if_neg (show ¬ (tear x (pickAt ps i)).nm = nm from e)]; exact hk⟩
theorem pick_ge (ps : List Int) (k : Nat) : 0 ≤ pickAt ps k := by unfold pickAt; omega
/-- Behind a crash: what was kept, and a beginning of the rest. -/
theorem kp5 (ps z t : List Int) {l : List Fl} (h : find nO l = some ⟨nO, z ++ t, z.length⟩) : ∃ r, r ≤ t.length ∧ find nO (tears ps 0 l) = some ⟨nO, z ++ t.take r, z.length + r⟩ := by
  obtain ⟨k, hk⟩ := find_tears ps nO 0 l _ h
  have hp := pick_ge ps k
  have e : (((z ++ t).length : Nat) : Int) - (z.length : Nat) + 1 = (t.length : Int) + 1 := by rw [List.length_append]; omega
  have h1 := Int.emod_nonneg (pickAt ps k) (show (t.length : Int) + 1 ≠ 0 by omega)
  have h2 := Int.emod_lt_of_pos (pickAt ps k) (show 0 < (t.length : Int) + 1 by omega)
  refine ⟨(pickAt ps k % ((t.length : Int) + 1)).toNat, by omega, ?_⟩
  rw [hk]
  unfold tear
  simp only [e]
  rw [List.take_append]
  simp
  rw [List.take_of_length_le (by omega)]
/-- A second one changes nothing. -/
theorem kp6 (ps b : List Int) {l : List Fl} {k : Nat} (hk : k = b.length) (h : find nO l = some ⟨nO, b, k⟩) : find nO (tears ps 0 l) = some ⟨nO, b, k⟩ := by
  obtain ⟨j, hj⟩ := find_tears ps nO 0 l _ h
  rw [hj]
  unfold tear
  simp only [hk]
  have e : ((b.length : Int) - b.length + 1) = 1 := by omega
  rw [e, Int.emod_one]
  simp
end
/-- A call that changes the disk, whatever it answers. -/
def AnyP (W : World) (X : Nat → Prop) (g : Nat) (f : Fl) (i : Nat) (e : Ending) (w' : World) : Prop := ∃ x d', e = .returned (.int .i64 x) ∧ Lw W X w' g d' ∧ Kp d' f i
section
variable {W w : World} {X : Nat → Prop} {g : Nat} {d : DS} {f : Fl} {i : Nat} {nm tn : ByteArray} {A : Option Addr} {n c : Nat} {zs : List Int}
theorem app_k (L : Lw W X w g d) (h : Kp d f i) (hi : i ≤ 30) (ha : Arg X w A n c zs) (hn : nm ≠ nO) (hp : zs.length ≤ 300) (hs : nm.size ≤ 140737488351232) :
    Calls Tryz.prog 30 #[.pointer (some ⟨g, 0, none⟩), .string nm, .slice A n c] w (AnyP W X g f (i + 1)) :=
  (app_run L ha ⟨rfl, rfl⟩ hs (by have := h.len; omega)).mono fun _ _ ⟨h1, h2⟩ => ⟨_, _, h1, h2, h.app L.q.ok.up hn hp⟩
theorem syn_k (L : Lw W X w g d) (h : Kp d f i) (hn : nm ≠ nO) (hs : nm.size ≤ 140737488351232) :
    Calls Tryz.prog 81 #[.pointer (some ⟨g, 0, none⟩), .string nm] w (AnyP W X g f (i + 1)) :=
  (syn_run L ⟨rfl, rfl⟩ hs).mono fun _ _ ⟨h1, h2⟩ => ⟨_, _, h1, h2, h.syn L.q.ok.up hn⟩
theorem rem_k (L : Lw W X w g d) (h : Kp d f i) (hn : nm ≠ nO) (hs : nm.size ≤ 140737488351232) :
    Calls Tryz.prog 80 #[.pointer (some ⟨g, 0, none⟩), .string nm] w (AnyP W X g f (i + 1)) :=
  (rem_run L ⟨rfl, rfl⟩ hs).mono fun _ _ ⟨h1, h2⟩ => ⟨_, _, h1, h2, h.rem L.q.ok.up hn⟩
theorem own_app {x : Int} {d' : DS} (L : Lw W X w g d) (ha : Arg X w A n c zs) (hx : appE d nO zs = x ∧ appS d nO zs = d') (hln : d.l.length < 9000000000) :
    Calls Tryz.prog 30 #[.pointer (some ⟨g, 0, none⟩), .string ⟨#[111, 119, 110]⟩, .slice A n c] w (RunP W X g x d') := app_run (nm := nO) L ha hx (by decide) hln
theorem own_syn {x : Int} {d' : DS} (L : Lw W X w g d) (hx : synE d nO = x ∧ synS d nO = d') : Calls Tryz.prog 81 #[.pointer (some ⟨g, 0, none⟩), .string ⟨#[111, 119, 110]⟩] w (RunP W X g x d') := syn_run (nm := nO) L hx (by decide)
theorem own_read {b : List Int} {k N : Nat} (L : Lw W X w g d) (hf : find nO d.l = some ⟨nO, b, k⟩) (hN : b.length = N) : Calls Tryz.prog 35 #[.pointer (some ⟨g, 0, none⟩), .string ⟨#[111, 119, 110]⟩] w fun e w' => ∃ A c, e = .returned (.tuple #[.slice A N c, .bool true]) ∧ Lr W X A b w' g d ∧ N ≤ c ∧ Below w.heap.size w w' :=
  (read_yes (nm := nO) L hf (by decide)).mono fun _ _ ⟨A, c, h1, h2, _, h3, h4⟩ => by subst hN; exact ⟨A, c, h1, h2, h3, h4⟩
theorem crash_k {ps : List Int} (L : Lw W X w g d) (h3 : IntsIn W A n c ps) (hn : n ≤ 30) (hl : d.l.length ≤ 100) {d' : DS} (hd : craS d ps = d') :
    Calls Tryz.prog 24 #[.pointer (some ⟨g, 0, none⟩), .slice A n c] w fun e w' => e = .returned (.tuple #[]) ∧ Lw W X w' g d' ∧ Kx X w w' :=
  (crash_q L.q (by omega) (h3.lies.below L.low) h3.len (by omega) (fun hn a ha => L.xs _ (by obtain ⟨b, off, e, hlt, _⟩ := h3.lies hn; rw [e] at ha; injection ha with ha; subst ha; exact hlt)) h3.ok).mono fun _ _ ⟨h1, h2, h3⟩ => ⟨h1, L.step (hd ▸ h2) h3, h3⟩
theorem cra_len (d : DS) (ps : List Int) : (craS d ps).l.length = d.l.length := tears_length ps 0 d.l
/-- The part behind the first k bytes. -/
theorem drop_lies {k N : Nat} (h : Lies w A zs) (hc : N ≤ c) (hN : zs.length = N) : Lies w (partA A c k) (zs.drop k) := h.rest (by omega) k
/-- A call of the list, in the midst of a walk. -/
theorem ask_at {m k : Nat} {it : Nat → As} (h : AsksIn W A m k it) (hb : Below W.heap.size W w) {j : Nat} (hj : j < m) : ∃ b off, A = some ⟨b, off, none⟩ ∧ b < W.heap.size ∧ AsAt w b off j (it j) ∧ AsOk W (it j) := by
  obtain ⟨b, off, e, hl, hc, ho⟩ := h.at_ j hj
  exact ⟨b, off, e, hl, hc.below hb hl, ho⟩
theorem beq_no {a b : ByteArray} (h : a ≠ b) : (a.toList == b.toList) = false := by
  have := eq_iff a b
  unfold eqB at this
  cases hh : (a.toList == b.toList)
  · rfl
  · exact absurd (this.1 hh) h
end
end Go.Proofs.YtkmcnhjfnjikaaaGreatDoor
/- Two disks apart from each other; Same over two slices of the same texts. Condition: the length has room. -/
namespace Go.Proofs.YtkmcnhjfnjikaaaGreatDoor
open Go.RowKit Go.Maps
/-- Two disks, apart from each other and from X. -/
def Two (X : Nat → Prop) (w : World) (g1 : Nat) (d1 : DS) (g2 : Nat) (d2 : DS) : Prop := ∃ S2, Dk S2 w g2 d2 ∧ (∀ k, S2 k → ¬ X k) ∧ Dq (fun k => X k ∨ S2 k) w g1 d1
section
variable {X Y : Nat → Prop} {w w' : World} {g1 g2 : Nat} {d1 d2 d1' : DS}
theorem Two.one (h : Two X w g1 d1 g2 d2) : Dq X w g1 d1 := by
  obtain ⟨S2, _, _, h⟩ := h
  exact h.less fun _ hk => .inl hk
theorem Two.swap (h : Two X w g1 d1 g2 d2) : Two X w g2 d2 g1 d1 := by
  obtain ⟨S2, h2, hx2, S1, h1, hx1, hl⟩ := h
  exact ⟨S1, h1, fun k hk x => hx1 k hk (.inl x), S2, h2, fun k hk x => x.elim (hx2 k hk) fun y => hx1 k y (.inr hk), fun k hk => hk.elim (fun x => hl k (.inl x)) (h1.lt k)⟩
theorem Two.below (h : Two X w g1 d1 g2 d2) (hb : Below w.heap.size w w') : Two X w' g1 d1 g2 d2 := by
  obtain ⟨S2, h2, hx2, h1⟩ := h
  exact ⟨S2, h2.below hb, hx2, h1.below hb⟩
theorem Two.less (h : Two X w g1 d1 g2 d2) (hs : ∀ k, Y k → X k) : Two Y w g1 d1 g2 d2 := by
  obtain ⟨S2, h2, hx2, h1⟩ := h
  exact ⟨S2, h2, fun k hk y => hx2 k hk (hs k y), h1.less fun k hk => hk.imp (hs k) id⟩
theorem Two.more (h : Two X w g1 d1 g2 d2) (hb : Below w.heap.size w w') (hY : ∀ k, Y k → X k ∨ (w.heap.size ≤ k ∧ k < w'.heap.size)) : Two Y w' g1 d1 g2 d2 := by
  obtain ⟨S2, h2, hx2, h1⟩ := h
  refine ⟨S2, h2.below hb, fun k hk y => ?_, h1.more hb fun k hk => ?_⟩
  · rcases hY k y with z | z
    · exact hx2 k hk z
    · have := h2.lt k hk; omega
  · rcases hk with y | s
    · exact (hY k y).imp .inl id
    · exact .inl (.inr s)
theorem Two.turned (h : Two X w g1 d1 g2 d2) {row : Option Nat} (hg : w.grownBy w' row) (hr : ∀ k, row = some k → X k) : Two X w' g1 d1 g2 d2 := by
  obtain ⟨S2, h2, hx2, h1⟩ := h
  exact ⟨S2, h2.kept hg.size fun k hk => hg.block k (h2.lt k hk) fun e => hx2 k hk (hr k e.symm), hx2, h1.turned hg fun k e => .inl (hr k e)⟩
theorem Two.op {f : FuncId} {args : Array Value} {P : Ending → Prop} (h : Two X w g1 d1 g2 d2) (hc : ∀ Y, Dq Y w g1 d1 → (∀ k, X k → Y k) → Calls Tryz.prog f args w fun e w' => P e ∧ Dq Y w' g1 d1' ∧ Kx Y w w') :
    Calls Tryz.prog f args w fun e w' => P e ∧ Two X w' g1 d1' g2 d2 ∧ Kx X w w' := by
  obtain ⟨S2, h2, hx2, h1⟩ := h
  refine (hc _ h1 fun _ hk => .inl hk).mono fun e w' ⟨he, hq, hk⟩ => ⟨he, ⟨S2, h2.kept hk.size fun k hk2 => hk.same (.inr hk2) (h2.lt k hk2), hx2, hq⟩, hk.mono fun _ x => .inl x⟩
theorem new_two {d : DS} (q : Int) (h : Dq X w g2 d) (hq : 0 ≤ q ∧ q ≤ 1048576) :
    Calls Tryz.prog 10 #[.int .i64 q] w fun e w' => ∃ g, e = .returned (.tuple #[.pointer (some ⟨g, 0, none⟩), .int .i64 0]) ∧ Two X w' g2 d g (newS q) ∧ Below w.heap.size w w' :=
  (new_yes q w hq).mono fun e w' ⟨g, he, hd, hb⟩ => by
    obtain ⟨S, h1, hx, hl⟩ := h
    have hs : ∀ k, fresh w k → w.heap.size ≤ k := fun k hk => by unfold fresh at hk; omega
    refine ⟨g, he, ⟨fresh w, hd, fun k hk x => ?_, S, h1.below hb, fun k hk x => ?_, fun k hk => ?_⟩, hb⟩
    · have := hl k x; have := hs k hk; omega
    · rcases x with x | x
      · exact hx k hk x
      · have := h1.lt k hk; have := hs k x; omega
    · rcases hk with x | x
      · exact Nat.lt_of_lt_of_le (hl k x) hb.size
      · exact hd.lt k x
end
/-- What a law on two disks holds on to. -/
structure Lt (W : World) (X : Nat → Prop) (w : World) (g1 : Nat) (d1 : DS) (g2 : Nat) (d2 : DS) : Prop where
  low : Below W.heap.size W w
  two : Two X w g1 d1 g2 d2
  xs : ∀ k, k < W.heap.size → X k
section
variable {W w w' : World} {X Y : Nat → Prop} {g1 g2 : Nat} {d1 d2 d1' d2' : DS} {nm tn : ByteArray}
theorem Lt.below (h : Lt W X w g1 d1 g2 d2) (hb : Below w.heap.size w w') : Lt W X w' g1 d1 g2 d2 := ⟨kept_trans h.low hb, h.two.below hb, h.xs⟩
theorem Lt.swap (h : Lt W X w g1 d1 g2 d2) : Lt W X w g2 d2 g1 d1 := ⟨h.low, h.two.swap, h.xs⟩
theorem Lt.one (h : Lt W X w g1 d1 g2 d2) : Lw W X w g1 d1 := ⟨h.low, h.two.one, h.xs⟩
theorem Lt.op {f : FuncId} {args : Array Value} {P : Ending → Prop} (h : Lt W X w g1 d1 g2 d2) (hc : ∀ Y, Dq Y w g1 d1 → (∀ k, X k → Y k) → Calls Tryz.prog f args w fun e w' => P e ∧ Dq Y w' g1 d1' ∧ Kx Y w w') :
    Calls Tryz.prog f args w fun e w' => P e ∧ Lt W X w' g1 d1' g2 d2 ∧ Kx X w w' :=
  (h.two.op hc).mono fun _ _ ⟨he, ht, hk⟩ => ⟨he, ⟨h.low.trans (hk.below h.low.size h.xs), ht, h.xs⟩, hk⟩
theorem Lt.turned (h : Lt W X w g1 d1 g2 d2) {r : Nat} (hr : X r) (hW : W.heap.size ≤ r) (i : Nat) (u : Value) : Lt W X (w.setCell ⟨r, i, none⟩ u) g1 d1 g2 d2 :=
  ⟨h.low.setCell (p := ⟨r, i, none⟩) hW u, h.two.turned (grown_put (grown_refl w (some r)) i u) fun k e => by injection e with e; rw [← e]; exact hr, h.xs⟩
theorem Lt.app {A : Option Addr} {n c : Nat} {zs : List Int} (h : Lt W X w g1 d1 g2 d2) (ha : Arg X w A n c zs) (hs : nm.size ≤ 140737488351232) (hln : d1.l.length < 9000000000) :
    Calls Tryz.prog 30 #[.pointer (some ⟨g1, 0, none⟩), .string nm, .slice A n c] w fun e w' => e = .returned (.int .i64 (appE d1 nm zs)) ∧ Lt W X w' g1 (appS d1 nm zs) g2 d2 ∧ Kx X w w' :=
  h.op fun _ hq hs' => append_q hq hs ha.len ha.nil ha.lies (fun hn a e => hs' _ (ha.inx hn a e)) ha.oct hln
theorem Lt.syn (h : Lt W X w g1 d1 g2 d2) (hs : nm.size ≤ 140737488351232) :
    Calls Tryz.prog 81 #[.pointer (some ⟨g1, 0, none⟩), .string nm] w fun e w' => e = .returned (.int .i64 (synE d1 nm)) ∧ Lt W X w' g1 (synS d1 nm) g2 d2 ∧ Kx X w w' :=
  h.op fun _ hq _ => sync_q hq (by unfold maxLen; omega)
theorem Lt.cra {A : Option Addr} {n c : Nat} {ps : List Int} (h : Lt W X w g1 d1 g2 d2) (h3 : IntsIn W A n c ps) (hn : n ≤ 30) (hl : d1.l.length ≤ 1000000) :
    Calls Tryz.prog 24 #[.pointer (some ⟨g1, 0, none⟩), .slice A n c] w fun e w' => e = .returned (.tuple #[]) ∧ Lt W X w' g1 (craS d1 ps) g2 d2 ∧ Kx X w w' :=
  h.op fun _ hq hs => crash_q hq hl (h3.lies.below h.low) h3.len (by omega) (fun hn a ha => hs _ (h.xs _ (by obtain ⟨b, off, e, hlt, _⟩ := h3.lies hn; rw [e] at ha; injection ha with ha; subst ha; exact hlt))) h3.ok
/-- A slice of bytes that a call made just now is kept apart. -/
theorem Lt.plus {A : Option Addr} {n c : Nat} {zs : List Int} (h : Lt W X w g1 d1 g2 d2) (ho : w'.ownsRow w.heap.size 5 1 (.slice A n c) n (cellsOf zs)) (hb : Below w.heap.size w w') : Lt W (Go.Proofs.YtkmcnhjfnjikaaaGreatDoor.plus X A) w' g1 d1 g2 d2 :=
  ⟨kept_trans h.low hb, h.two.more hb fun k hk => by
    rcases hk with hk | ⟨a, ha, rfl⟩
    · exact .inl hk
    · exact .inr (ho.lt a.block (by rw [ha]; rfl)), fun k hk => .inl (h.xs k hk)⟩
theorem Lt.drop {A : Option Addr} (h : Lt W (Go.Proofs.YtkmcnhjfnjikaaaGreatDoor.plus X A) w g1 d1 g2 d2) (hX : ∀ k, k < W.heap.size → X k) : Lt W X w g1 d1 g2 d2 := ⟨h.low, h.two.less fun _ hk => .inl hk, hX⟩
end
theorem strs_get {w : World} {A : Option Addr} {xs : List ByteArray} (h : Strs w A xs) {k : Nat} (hk : k < xs.length) : ∃ b off, A = some ⟨b, off, none⟩ ∧ b < w.heap.size ∧ w.cell? ⟨b, off + k, none⟩ = some (.string xs[k]) := h.at_ (List.getElem?_eq_getElem hk)
set_option maxHeartbeats 400000 in
theorem sameS_yes (A B : Option Addr) (n c d : Nat) (xs : List ByteArray) (w : World) (hn : xs.length = n) (hz : Strs w A xs) (hy : Strs w B xs) (ln : n ≤ 4611686018427387904) :
    Calls Tryz.prog 59 #[.slice A n c, .slice B n d] w fun e w' => e = .returned (.bool true) ∧ ∃ q, w' = w.drewN q := by
  subst hn
  go_enter Tryz.func59, Tryz.ntmps59
  go_wp2
  go_loopw [5] (fun i wr => ∃ k q : Nat, k ≤ xs.length ∧ i = .int .i64 k ∧ wr = w.drewN q) (fun i _ => xs.length - (intOf i).toNat)
  case atStart => exact ⟨0, 0, by omega, rfl, rfl⟩
  case round =>
    obtain ⟨k, q, hk, rfl, rfl⟩ := hrel
    by_cases hlt : k < xs.length
    · obtain ⟨b1, o1, rfl, _, hc1⟩ := strs_get hz hlt
      obtain ⟨b2, o2, rfl, _, hc2⟩ := strs_get hy hlt
      have Hz := hide hz; have Hy := hide hy; clear hz hy
      generalize xs[k] = x at *
      go_wp2
      go_quiet (fail)
      go_wp2
      go_roundw
      case rel => exact ⟨k + 1, _, by omega, by go_num, rfl⟩
      case measure => simp [intOf]; omega
    · go_wp2
      go_ret
      exact ⟨rfl, _, rfl⟩
end Go.Proofs.YtkmcnhjfnjikaaaGreatDoor
/- What the law on twins holds on to. No condition. -/
namespace Go.Proofs.YtkmcnhjfnjikaaaGreatDoor
open Go.RowKit Go.Maps
theorem len_put (f : Fl) : ∀ l : List Fl, (putF f l).length ≤ l.length + 1
  | [] => Nat.le_refl _
  | x :: l => by
    have := len_put f l
    unfold putF
    split
    · simp
    · split <;> simp <;> omega
theorem spent_len (d : DS) : d.spent.l.length = d.l.length := by rw [spent_l]
section
variable (d : DS) (nm tn : ByteArray) (p : List Int)
theorem len_app : (appS d nm p).l.length ≤ d.l.length + 1 := by
  have h := fun f => len_put f d.l
  have hs := spent_len d
  unfold appS
  split
  · omega
  · split
    · omega
    · split
      · omega
      · split
        · omega
        · exact h _
theorem len_syn : (synS d nm).l.length ≤ d.l.length + 1 := by
  have h := fun f => len_put f d.l
  have hs := spent_len d
  unfold synS
  split
  · omega
  · split
    · omega
    · split
      · omega
      · exact h _
theorem len_ren : (renS d nm tn).l.length ≤ d.l.length + 1 := by
  have h := fun f => len_put f (delF nm d.l)
  have h2 : (delF nm d.l).length ≤ d.l.length := List.length_filter_le _ _
  have hs := spent_len d
  unfold renS
  split
  · omega
  · split
    · omega
    · split
      · omega
      · split
        · omega
        · exact Nat.le_trans (h _) (by omega)
theorem len_rem : (remS d nm).l.length ≤ d.l.length + 1 := by
  have h2 : (delF nm d.l).length ≤ d.l.length := List.length_filter_le _ _
  have hs := spent_len d
  unfold remS
  split
  · omega
  · split
    · omega
    · split
      · omega
      · exact Nat.le_succ_of_le h2
theorem len_cut (n : Int) : (cutS d nm n).l.length ≤ d.l.length + 1 := by
  have h := fun f => len_put f d.l
  have hs := spent_len d
  unfold cutS
  split
  · omega
  · split
    · omega
    · split
      · omega
      · split
        · omega
        · exact h _
end
/-- What lay before, and the round's call. -/
def Xb (W : World) (gb : Nat) : Nat → Prop := plus (fun k => k < W.heap.size) (some ⟨gb, 0, none⟩)
def askRow (x : As) : Array Value := #[.int .i64 x.k, .int .i64 x.n, .string x.nm, .string x.tn, .slice x.d.A x.d.n x.d.c, .slice x.p.A x.p.n x.p.c]
section
variable {W w w' : World} {g1 g2 gb n c : Nat} {d1 d2 d1' : DS} {x : As} {A : Option Addr} {ys : List Int} {nm tn : ByteArray}
theorem row0 {base : Nat} {v : Value} {xs : List Value} (h : w.ownsRow base 5 1 v n xs) : w.ownsRow 0 5 1 v n xs := by
  refine ⟨h.1, ?_⟩
  rcases h.2 with hv | ⟨g, cap, cur, hv, _, rest⟩
  · exact .inl hv
  · exact .inr ⟨g, cap, cur, hv, Nat.zero_le _, rest⟩
theorem dat_len {d : DS} (h : DOk d) (nm : ByteArray) : (datO (find nm d.l)).length ≤ 1048576 := by
  cases hf : find nm d.l with
  | none => simp [datO]
  | some f => exact flen h (find_mem hf).1
end
theorem nms_size {d : DS} (h : DOk d) {k : Nat} (hk : k < (nms d.l).length) : (nms d.l)[k].size ≤ 140737488351232 := by
  have hm : (nms d.l)[k] ∈ nms d.l := List.getElem_mem hk
  obtain ⟨f, hf, e⟩ := List.mem_map.1 hm
  have := (name_size (h.nm f hf)).2
  rw [← e]; omega
end Go.Proofs.YtkmcnhjfnjikaaaGreatDoor
