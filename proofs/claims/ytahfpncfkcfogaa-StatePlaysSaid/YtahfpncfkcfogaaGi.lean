/- A reader and a command that is being read: what becomes of both; what is read, in plain words. No condition. -/
import Derived.Test.YtahfpncfkcfogaaGg
import Derived.Test.YtahfpncfkcfogaaGb
import Derived.Test.YtahfpncfkcfogaaGh
import Derived.Test.YtahfpncfkcfogaaGc
namespace Go.Proofs.Ytahfpncfkcfogaa
set_option maxRecDepth 100000
open Go.RowKit
/-- What is read: the command, the place, the error. -/
def readC (zs : List Int) (i : Nat) (e : Int) : Cm × Nat × Int :=
  let k := rNumV zs i e
  let i1 := rNumA zs i e
  let e1 := rNumE zs i e
  if k = 0 then (⟨k, 0, 0, noT, noT, noT, noT⟩, i1, e1) else
  let c := rNumV zs i1 e1
  let i2 := rNumA zs i1 e1
  let e2 := rNumE zs i1 e1
  let q := rNumV zs i2 e2
  let i3 := rNumA zs i2 e2
  let e3 := rNumE zs i2 e2
  let a := strOf (rTxtV zs i3 e3 16)
  let i4 := rTxtA zs i3 e3 16
  let e4 := rTxtE zs i3 e3 16
  if k = 2 then (⟨k, c, q, a, noT, noT, strOf (rTxtV zs i4 e4 64)⟩, rTxtA zs i4 e4 64, rTxtE zs i4 e4 64)
  else if k = 4 then (⟨k, c, q, a, noT, strOf (rTxtV zs i4 e4 64), strOf (rTxtV zs (rTxtA zs i4 e4 64) (rTxtE zs i4 e4 64) 64)⟩, rTxtA zs (rTxtA zs i4 e4 64) (rTxtE zs i4 e4 64) 64, rTxtE zs (rTxtA zs i4 e4 64) (rTxtE zs i4 e4 64) 64)
  else if k = 5 then (⟨k, c, q, a, strOf (rTxtV zs i4 e4 16), noT, noT⟩, rTxtA zs i4 e4 16, rTxtE zs i4 e4 16)
  else (⟨k, c, q, a, noT, noT, noT⟩, i4, e4)
def getE (zs : List Int) (i : Nat) (e : Int) : Int := if rightC (readC zs i e).1 then (readC zs i e).2.2 else rFailE (readC zs i e).2.2
def getA (zs : List Int) (i : Nat) (e : Int) : Nat := (readC zs i e).2.1
def getV (zs : List Int) (i : Nat) (e : Int) : Cm := if getE zs i e = 0 then (readC zs i e).1 else c_zeroC
section
variable {zs : List Int} {i i1 i2 i3 i4 i5 i6 : Nat} {e e1 e2 e3 e4 e5 e6 k c q : Int} {a b o : List Int}
theorem readC_none (h0 : rNumV zs i e = 0) (h1 : rNumA zs i e = i1) (h2 : rNumE zs i e = e1) : readC zs i e = (c_zeroC, i1, e1) := by
  unfold readC; simp only [h0, h1, h2, if_pos]; rfl
theorem readC_some (k0 : k ≠ 0) (h0 : rNumV zs i e = k) (h1 : rNumA zs i e = i1) (h2 : rNumE zs i e = e1) (h3 : rNumV zs i1 e1 = c) (h4 : rNumA zs i1 e1 = i2) (h5 : rNumE zs i1 e1 = e2)
    (h6 : rNumV zs i2 e2 = q) (h7 : rNumA zs i2 e2 = i3) (h8 : rNumE zs i2 e2 = e3) (h9 : rTxtV zs i3 e3 16 = a) (h10 : rTxtA zs i3 e3 16 = i4) (h11 : rTxtE zs i3 e3 16 = e4) :
    readC zs i e = if k = 2 then (⟨k, c, q, strOf a, noT, noT, strOf (rTxtV zs i4 e4 64)⟩, rTxtA zs i4 e4 64, rTxtE zs i4 e4 64)
      else if k = 4 then (⟨k, c, q, strOf a, noT, strOf (rTxtV zs i4 e4 64), strOf (rTxtV zs (rTxtA zs i4 e4 64) (rTxtE zs i4 e4 64) 64)⟩, rTxtA zs (rTxtA zs i4 e4 64) (rTxtE zs i4 e4 64) 64, rTxtE zs (rTxtA zs i4 e4 64) (rTxtE zs i4 e4 64) 64)
      else if k = 5 then (⟨k, c, q, strOf a, strOf (rTxtV zs i4 e4 16), noT, noT⟩, rTxtA zs i4 e4 16, rTxtE zs i4 e4 16)
      else (⟨k, c, q, strOf a, noT, noT, noT⟩, i4, e4) := by
  unfold readC; simp only [h0, h1, h2, h3, h4, h5, h6, h7, h8, h9, h10, h11, if_neg k0]
end
theorem Row.far {w w' : World} {g h : Nat} {t : TypeId} {cs : Array Value} (r : Row w h t cs) (hg : w.grownBy w' (some g)) (hne : g ≠ h) : Row w' h t cs :=
  (hg.block h r.lt (fun e => hne (by injection e with e; exact e.symm))).trans r
/-- The reader at g, a zero command at h2 for the answer, a command that is being read at h, and what was there. -/
structure Rz (t : TypeId) (W w : World) (B g : Nat) (zs : List Int) (i : Nat) (e : Int) (h2 h : Nat) (x : Cm) : Prop where
  r : Rdr t w B g zs i e
  res : Row w h2 35 (rowC c_zeroC)
  c : Row w h 35 (rowC x)
  old : W.grownBy w (some g)
  new : W.heap.size ≤ h2
  g2 : g < h2
  lt : h2 < h
/-- What a walk needs of a block that holds a command and may be written. -/
def Free7 (w : World) (h : Nat) : Prop := w.frozen? ⟨h, 0, none⟩ = false ∧ w.frozen? ⟨h, 1, none⟩ = false ∧ w.frozen? ⟨h, 2, none⟩ = false ∧ w.frozen? ⟨h, 3, none⟩ = false ∧ w.frozen? ⟨h, 4, none⟩ = false ∧ w.frozen? ⟨h, 5, none⟩ = false ∧ w.frozen? ⟨h, 6, none⟩ = false
theorem Row.free7 {w : World} {h : Nat} {t : TypeId} {cs : Array Value} (r : Row w h t cs) : Free7 w h := ⟨r.free 0, r.free 1, r.free 2, r.free 3, r.free 4, r.free 5, r.free 6⟩
theorem Row.cells7 {w : World} {h : Nat} {t : TypeId} {x : Cm} (r : Row w h t (rowC x)) : Cells7 w h x := (seven_of r).cells
section
variable {t : TypeId} {W w w' : World} {B g i i' h2 h : Nat} {zs : List Int} {e e' : Int} {x x' : Cm}
theorem Rz.step (s : Rz t W w B g zs i e h2 h x) (hr : Rdr t w' B g zs i' e') (hg : w.grownBy w' (some g)) : Rz t W w' B g zs i' e' h2 h x :=
  have h1 := s.g2
  have h3 := s.lt
  ⟨hr, s.res.far hg (by omega), s.c.far hg (by omega), grown_trans s.old hg, s.new, s.g2, s.lt⟩
theorem Rz.put (s : Rz t W w B g zs i e h2 h x) (j : Nat) (u : Value) (hx : (rowC x).setIfInBounds j u = rowC x') : Rz t W (w.setCell ⟨h, j, none⟩ u) B g zs i e h2 h x' :=
  have h1 := s.g2
  have h3 := s.lt
  have hl := s.r.low
  ⟨s.r.keep (fun k hk => Below.heap_setCell _ _ _ _ (by show k ≠ h; omega)) (Below.heap_setCell _ _ _ _ (by show g ≠ h; omega)),
    (Below.heap_setCell w ⟨h, j, none⟩ u h2 (by show h2 ≠ h; omega)).trans s.res, by have := s.c.put j u; rwa [hx] at this,
    ⟨s.old.os, s.old.tape, s.old.output, by have := s.old.size; simpa [World.setCell] using this, fun k hk hn => (Below.heap_setCell w ⟨h, j, none⟩ u k (by show k ≠ h; have := s.new; omega)).trans (s.old.block k hk hn)⟩, s.new, s.g2, s.lt⟩
/-- The reader and what was there, when the answer is written. -/
structure Kp (t : TypeId) (W w : World) (B g : Nat) (zs : List Int) (i : Nat) (e : Int) (h2 : Nat) : Prop where
  r : Rdr t w B g zs i e
  old : W.grownBy w (some g)
  new : W.heap.size ≤ h2
  g2 : g < h2
theorem Rz.kp (s : Rz t W w B g zs i e h2 h x) : Kp t W w B g zs i e h2 := ⟨s.r, s.old, s.new, s.g2⟩
theorem Kp.put (s : Kp t W w B g zs i e h2) (j : Nat) (u : Value) : Kp t W (w.setCell ⟨h2, j, none⟩ u) B g zs i e h2 :=
  have h1 := s.g2
  have hl := s.r.low
  ⟨s.r.keep (fun k hk => Below.heap_setCell _ _ _ _ (by show k ≠ h2; omega)) (Below.heap_setCell _ _ _ _ (by show g ≠ h2; omega)),
    ⟨s.old.os, s.old.tape, s.old.output, by have := s.old.size; simpa [World.setCell] using this, fun k hk hn => (Below.heap_setCell w ⟨h2, j, none⟩ u k (by show k ≠ h2; have := s.new; omega)).trans (s.old.block k hk hn)⟩, s.new, s.g2⟩
end
section
variable {W w : World} {B g i i' h2 h : Nat} {zs : List Int} {e e' v : Int} {a : List Int} {x : Cm}
theorem Rz.num (s : Rz 127 W w B g zs i e h2 h x) (hv : rNumV zs i e = v) (ha : rNumA zs i e = i') (he : rNumE zs i e = e') :
    Calls Try.prog 90 #[.pointer (some ⟨g, 0, none⟩)] w fun y w' => y = .returned (.int .i64 v) ∧ Cells7 w' h x ∧ Free7 w' h ∧ Rz 127 W w' B g zs i' e' h2 h x := by
  subst hv ha he
  exact (pnum_any s.r).mono fun _ _ ⟨hy, hr, hg⟩ => have z := s.step hr hg; ⟨hy, z.c.cells7, z.c.free7, z⟩
theorem Rz.text (s : Rz 127 W w B g zs i e h2 h x) (m : Int) (hv : rTxtV zs i e m = a) (ha : rTxtA zs i e m = i') (he : rTxtE zs i e m = e') :
    Calls Try.prog 89 #[.pointer (some ⟨g, 0, none⟩), .int .i64 m] w fun y w' => y = .returned (.string (strOf a)) ∧ Cells7 w' h x ∧ Free7 w' h ∧ Rz 127 W w' B g zs i' e' h2 h x := by
  subst hv ha he
  exact (ptext_any s.r m).mono fun _ _ ⟨hy, hr, hg⟩ => have z := s.step hr hg; ⟨hy, z.c.cells7, z.c.free7, z⟩
theorem Rz.rnum (s : Rz 105 W w B g zs i e h2 h x) (hv : rNumV zs i e = v) (ha : rNumA zs i e = i') (he : rNumE zs i e = e') :
    Calls Try.prog 64 #[.pointer (some ⟨g, 0, none⟩)] w fun y w' => y = .returned (.int .i64 v) ∧ Cells7 w' h x ∧ Free7 w' h ∧ Rz 105 W w' B g zs i' e' h2 h x := by
  subst hv ha he
  exact (rnum_to s.r).mono fun _ _ ⟨hy, hr, hg⟩ => have z := s.step hr hg; ⟨hy, z.c.cells7, z.c.free7, z⟩
theorem Rz.rtext (s : Rz 105 W w B g zs i e h2 h x) (m : Int) (hv : rTxtV zs i e m = a) (ha : rTxtA zs i e m = i') (he : rTxtE zs i e m = e') :
    Calls Try.prog 66 #[.pointer (some ⟨g, 0, none⟩), .int .i64 m] w fun y w' => y = .returned (.string (strOf a)) ∧ Cells7 w' h x ∧ Free7 w' h ∧ Rz 105 W w' B g zs i' e' h2 h x := by
  subst hv ha he
  exact (rtext_to s.r m).mono fun _ _ ⟨hy, hr, hg⟩ => have z := s.step hr hg; ⟨hy, z.c.cells7, z.c.free7, z⟩
end
end Go.Proofs.Ytahfpncfkcfogaa
/- What the document's own Right, Keys, Writes, Clash come to. Conditions: the keys have room. -/
namespace Go.Proofs.Ytahfpncfkcfogaa
set_option maxRecDepth 100000
open Go.RowKit
/-- The document's own, in plain words. -/
def badC (x : Cm) : Bool := decide (x.k < 1) || (decide (5 < x.k) || (decide (x.c < 1) || (decide (8 < x.c) || (decide (x.q < 1) || (decide (1099511627776 < x.q) || (decide (16 < x.key.size) || (decide (16 < x.en.size) || (decide (64 < x.old.size) || decide (64 < x.val.size)))))))))
def bareC (x : Cm) : Cm :=
  if x.k = 2 then ⟨x.k, x.c, x.q, x.key, noT, noT, x.val⟩
  else if x.k = 4 then ⟨x.k, x.c, x.q, x.key, noT, x.old, x.val⟩
  else if x.k = 5 then ⟨x.k, x.c, x.q, x.key, x.en, noT, noT⟩
  else ⟨x.k, x.c, x.q, x.key, noT, noT, noT⟩
def rrightC (x : Cm) : Bool := sameC x c_zeroC || (!badC x && (sameC x (bareC x) && (decide (x.k = 5) || !nilB x.key)))
end Go.Proofs.Ytahfpncfkcfogaa
/- What the document's own Clash and Right come to. Conditions: the keys have room. -/
namespace Go.Proofs.Ytahfpncfkcfogaa
set_option maxRecDepth 100000
open Go.RowKit
def rclashC (x y : Cm) : Bool := (hasC x.k && hasC y.k) && (x.c == y.c || ((writesC x.k || writesC y.k) && rmeetB (loC x) (hiC x) (loC y) (hiC y)))
set_option maxRecDepth 100000 in
set_option maxHeartbeats 8000000 in
theorem c_rright_any (k c q : Int) (a b o v : ByteArray) (w : World) :
    Calls Try.prog 41 #[.agg #[.int .i64 k, .int .i64 c, .int .i64 q, .string a, .string b, .string o, .string v]] w fun e w' => e = .returned (.bool (rrightC ⟨k, c, q, a, b, o, v⟩)) ∧ Below w.heap.size w w' := by
  have heq := fun k' c' q' a' b' o' v' => eql_cmd k c q a b o v k' c' q' a' b' o' v'
  cases hz : sameC ⟨k, c, q, a, b, o, v⟩ ⟨0, 0, 0, ⟨#[]⟩, ⟨#[]⟩, ⟨#[]⟩, ⟨#[]⟩⟩
  · go_enter Try.func41, Try.ntmps41
    go_wp2
    all_goals first
      | (go_ret; clear heq; exact ⟨ret_bool (by simp [rrightC, badC, bareC, c_zeroC, noT, nilB, *] <;> simp_all <;> omega), by repeat' first | exact Below.refl _ _ | refine Below.drew ?_ | refine bit_alloc ?_ (Nat.le_refl _) _⟩)
      | (go_region; go_wp2; all_goals go_ret; clear heq; all_goals exact ⟨ret_bool (by simp [rrightC, badC, bareC, c_zeroC, noT, nilB, *] <;> simp_all <;> omega), by repeat' first | exact Below.refl _ _ | refine Below.drew ?_ | refine bit_alloc ?_ (Nat.le_refl _) _⟩)
  · go_enter Try.func41, Try.ntmps41
    go_wp2
    go_ret
    exact ⟨ret_bool (by simp [rrightC, c_zeroC, noT, hz]), (Below.refl _ _).alloc (Nat.le_refl _) _⟩
end Go.Proofs.Ytahfpncfkcfogaa
/- The document's own come to the same as the program's, in plain words. No condition: nothing here speaks of a program. -/
namespace Go.Proofs.Ytahfpncfkcfogaa
set_option maxRecDepth 100000
open Go.RowKit
theorem bare_named {x : Cm} (h1 : 1 ≤ x.k) (h5 : x.k ≤ 5) : bareC x = namedC x := by
  unfold bareC namedC
  by_cases a : x.k = 2
  · rw [if_pos a, if_neg (by omega), if_pos a]
  · by_cases b : x.k = 4
    · rw [if_neg a, if_pos b, if_neg (by omega), if_neg a, if_pos b]
    · by_cases c : x.k = 5
      · rw [if_neg a, if_neg b, if_pos c, if_neg (by omega), if_neg a, if_neg b, if_pos c]
      · rw [if_neg a, if_neg b, if_neg c, if_pos (by omega)]
theorem bound_bad {x : Cm} (h1 : 1 ≤ x.k) (h5 : x.k ≤ 5) : boundC x = (!badC x && (decide (x.k = 5) || !nilB x.key)) := by
  unfold boundC badC
  cases hn : nilB x.key
  all_goals
    rw [Bool.eq_iff_iff]
    simp only [Bool.and_eq_true, Bool.or_eq_true, Bool.not_eq_true', Bool.and_eq_false_iff, Bool.or_eq_false_iff, decide_eq_true_eq, decide_eq_false_iff_not]
    simp
    omega
theorem right_kind {x : Cm} (h : rightC x = true) (h0 : x.k ≠ 0) : x = namedC x ∧ boundC x = true ∧ 1 ≤ x.k ∧ x.k ≤ 5 := by
  unfold rightC at h
  rw [if_neg h0, Bool.and_eq_true, sameC_iff] at h
  refine ⟨h.1, h.2, ?_⟩
  by_cases h5 : 1 ≤ x.k ∧ x.k ≤ 5
  · exact h5
  · have e : namedC x = c_zeroC := by
      unfold namedC
      rw [if_neg (by omega), if_neg (by omega), if_neg (by omega), if_neg (by omega)]
    rw [e] at h
    exact absurd (congrArg Cm.k h.1) h0
theorem rright_is (x : Cm) : rrightC x = rightC x := by
  by_cases h0 : x.k = 0
  · unfold rrightC rightC
    have hb : badC x = true := by unfold badC; rw [decide_eq_true (show x.k < 1 by omega)]; rfl
    rw [if_pos h0, hb]
    simp
  · have hz : sameC x c_zeroC = false := by
      cases hs : sameC x c_zeroC
      · rfl
      · rw [sameC_iff] at hs; rw [hs] at h0; exact absurd rfl h0
    by_cases h : 1 ≤ x.k ∧ x.k ≤ 5
    · unfold rrightC rightC
      rw [if_neg h0, hz, bare_named h.1 h.2, bound_bad h.1 h.2]
      cases badC x <;> cases sameC x (namedC x) <;> simp
    · have hb : badC x = true := by
        unfold badC
        by_cases h1 : x.k < 1
        · rw [decide_eq_true h1]; rfl
        · rw [decide_eq_true (show 5 < x.k by omega), Bool.true_or, Bool.or_true]
      have hr : rightC x = false := by
        cases hr : rightC x
        · rfl
        · exact absurd (right_kind hr h0).2.2 h
      unfold rrightC
      rw [hz, hb, hr]
      rfl
theorem right_zeroC : rightC c_zeroC = true := by
  unfold rightC
  rw [if_pos (show c_zeroC.k = 0 from rfl), sameC_iff]
/-- The document's own Right. -/
theorem rright_to (k c q : Int) (a b o v : ByteArray) (w : World) :
    Calls Try.prog 41 #[.agg #[.int .i64 k, .int .i64 c, .int .i64 q, .string a, .string b, .string o, .string v]] w fun e w' => e = .returned (.bool (rightC ⟨k, c, q, a, b, o, v⟩)) ∧ Below w.heap.size w w' := by
  rw [← rright_is]; exact c_rright_any k c q a b o v w
end Go.Proofs.Ytahfpncfkcfogaa
