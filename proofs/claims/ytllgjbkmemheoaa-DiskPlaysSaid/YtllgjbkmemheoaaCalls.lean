/- The disk's calls once more, as a law's walk wants them: each answer by its value. Conditions as the calls' own. -/
import Derived.Test.YtllgjbkmemheoaaRuns
import Derived.Test.YtllgjbkmemheoaaFrame
namespace Go.Proofs.Ytllgjbkmemheoaa
open Go.RowKit Go.Maps
theorem not_none {a : Addr} {m : Nat} (h : (some a : Option Addr) = none) : m = 0 := by cases h
theorem alloc_le (w : World) (o : Obj) : w.heap.size ≤ (w.alloc o).heap.size := by simp
section
variable {W w : World} {X : Nat → Prop} {g : Nat} {A : Option Addr} {zs : List Int} {n c : Nat} {d d' : DS} {nm tn : ByteArray} {x : Int}
theorem SliceIn.inX (h : SliceIn W A n c zs) (hX : ∀ k, k < W.heap.size → X k) : InX X A zs := fun hn a ha => by
  obtain ⟨b, off, e, hlt, _⟩ := h.lies hn
  rw [e] at ha; injection ha with ha; subst ha; exact hX _ hlt
/-- What an argument of bytes is good for in the midst of a walk. -/
structure Arg (X : Nat → Prop) (w : World) (A : Option Addr) (n c : Nat) (zs : List Int) : Prop where
  len : zs.length = n
  lies : Lies w A zs
  inx : InX X A zs
  oct : Octets zs
  nil : A = none → c = 0
theorem SliceIn.arg (h : SliceIn W A n c zs) (L : Lw W X w g d) : Arg X w A n c zs := ⟨h.len, h.lies.below L.low, h.inX L.xs, h.oct, h.nil⟩
theorem app_run (L : Lw W X w g d) (ha : Arg X w A n c zs) (hx : appE d nm zs = x ∧ appS d nm zs = d') (hs : nm.size ≤ 140737488351232) (hln : d.l.length < 9000000000) :
    Calls Try.prog 11 #[.pointer (some ⟨g, 0, none⟩), .string nm, .slice A n c] w (RunP W X g x d') :=
  (append_q L.q hs ha.len ha.nil ha.lies ha.inx ha.oct hln).mono fun e w' ⟨h1, h2, h3⟩ => ⟨by rw [h1, hx.1], L.step (hx.2 ▸ h2) h3⟩
theorem app_one (L : Lw W X w g d) (hx : appE d nm [1] = x ∧ appS d nm [1] = d') (hs : nm.size ≤ 140737488351232) (hln : d.l.length < 9000000000) :
    Calls Try.prog 11 #[.pointer (some ⟨g, 0, none⟩), .string nm, .slice (some ⟨w.heap.size, 0, none⟩) 1 1] (w.alloc (.cells #[.int .u8 1] 5)) (RunP W X g x d') :=
  (append_new (zs := [1]) L.q (lits_new w _ _).1 hs rfl (fun h => by cases h) (lits_new w [1] _).2 (fun _ a ha => by injection ha with ha; subst ha; exact Nat.le_refl _) (oct_small (by decide)) hln).mono fun e w' ⟨h1, h2, h3⟩ =>
    ⟨by rw [h1, hx.1], L.step (hx.2 ▸ h2) h3⟩
theorem syn_run (L : Lw W X w g d) (hx : synE d nm = x ∧ synS d nm = d') (hs : nm.size ≤ 140737488351232) :
    Calls Try.prog 12 #[.pointer (some ⟨g, 0, none⟩), .string nm] w (RunP W X g x d') :=
  (sync_q L.q (by unfold maxLen; omega)).mono fun e w' ⟨h1, h2, h3⟩ => ⟨by rw [h1, hx.1], L.step (hx.2 ▸ h2) h3⟩
theorem ren_run (L : Lw W X w g d) (hx : renE d nm tn = x ∧ renS d nm tn = d') (hs : nm.size ≤ 140737488351232) (ht : tn.size ≤ 140737488351232) (hln : d.l.length < 9000000000) :
    Calls Try.prog 21 #[.pointer (some ⟨g, 0, none⟩), .string nm, .string tn] w (RunP W X g x d') :=
  (rename_q L.q (by unfold maxLen; omega) ht hln).mono fun e w' ⟨h1, h2, h3⟩ => ⟨by rw [h1, hx.1], L.step (hx.2 ▸ h2) h3⟩
theorem rem_run (L : Lw W X w g d) (hx : remE d nm = x ∧ remS d nm = d') (hs : nm.size ≤ 140737488351232) :
    Calls Try.prog 22 #[.pointer (some ⟨g, 0, none⟩), .string nm] w (RunP W X g x d') :=
  (remove_q L.q (by unfold maxLen; omega)).mono fun e w' ⟨h1, h2, h3⟩ => ⟨by rw [h1, hx.1], L.step (hx.2 ▸ h2) h3⟩
/-- What Read hands over: where there is a file, and where there is none. -/
def RdP (W : World) (X : Nat → Prop) (w : World) (g : Nat) (d : DS) (zs : List Int) (t : Bool) (e : Ending) (w' : World) : Prop := ∃ A c, e = .returned (.tuple #[.slice A zs.length c, .bool t]) ∧ Lr W X A zs w' g d ∧ (A = none → c = 0) ∧ zs.length ≤ c ∧ Below w.heap.size w w'
theorem read_run {o : Option Fl} (L : Lw W X w g d) (hf : find nm d.l = o) (hs : nm.size ≤ 140737488351232) : Calls Try.prog 14 #[.pointer (some ⟨g, 0, none⟩), .string nm] w (RdP W X w g d (datO o) o.isSome) :=
  (read_q L.q (by unfold maxLen; omega)).mono fun e w' ⟨A, c, h1, h2, h3⟩ => by
    rw [hf] at h1 h2
    refine ⟨A, c, h1, L.read h2 h3, fun e => ?_, (own_len h2).2, h3⟩
    rcases h2.2 with ⟨hv, _⟩ | ⟨q, cap, cur, hv, _⟩
    · injection hv
    · injection hv with e1; rw [e] at e1; cases e1
theorem read_yes {f : Fl} (L : Lw W X w g d) (hf : find nm d.l = some f) (hs : nm.size ≤ 140737488351232) : Calls Try.prog 14 #[.pointer (some ⟨g, 0, none⟩), .string nm] w (RdP W X w g d f.dt true) := read_run L hf hs
theorem read_no (L : Lw W X w g d) (hf : find nm d.l = none) (hs : nm.size ≤ 140737488351232) : Calls Try.prog 14 #[.pointer (some ⟨g, 0, none⟩), .string nm] w fun e w' => ∃ A c, e = .returned (.tuple #[.slice A 0 c, .bool false]) ∧ Lw W X w' g d ∧ Below w.heap.size w w' :=
  (read_run L hf hs).mono fun _ _ ⟨A, c, h1, h2, _, _, h3⟩ => ⟨A, c, h1, ⟨h2.l.low, h2.l.q.less fun _ hk => .inl hk, L.xs⟩, h3⟩
theorem Lr.drop (h : Lr W X A zs w g d) (hX : ∀ k, k < W.heap.size → X k) : Lw W X w g d := ⟨h.l.low, h.l.q.less fun _ hk => .inl hk, hX⟩
theorem same_run {B : Option Addr} {m k : Nat} {ys : List Int} (L : Lw W X w g d) (hz : Lies w A zs) (hy : Lies w B ys) (hn : zs.length = n) (hm : ys.length = m) (l1 : n ≤ 4611686018427387904) (l2 : m ≤ 4611686018427387904) {t : Bool} (ht : decide (zs = ys) = t) :
    Calls Try.prog 16 #[.slice A n c, .slice B m k] w fun e w' => e = .returned (.bool t) ∧ Lw W X w' g d ∧ Below w.heap.size w w' :=
  (same_any A B n m c k zs ys w hn hm hz hy l1 l2).mono fun e w' ⟨h1, q, h2⟩ => ⟨by rw [h1, ht], by rw [h2]; exact L.below (kept_drewN (kept_refl w) q), by rw [h2]; exact kept_drewN (kept_refl w) q⟩
theorem run_run (L : Lw W X w g d) : Calls Try.prog 3 #[] w fun e w' => e = .returned (.bool true) ∧ Below W.heap.size W w' :=
  (runs_any w).mono fun _ _ ⟨h1, h2⟩ => ⟨h1, kept_trans L.low h2⟩
end
end Go.Proofs.Ytllgjbkmemheoaa
