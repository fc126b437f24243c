/- A reader and a command that is being read: what becomes of both; what is read, in plain words. No condition. -/
import Derived.Test.YtigbplmfhnamkaaClas
import Derived.Test.YtigbplmfhnamkaaPut
import Derived.Test.YtigbplmfhnamkaaText
import Derived.Test.YtigbplmfhnamkaaReft
import Derived.Test.YtigbplmfhnamkaaRefs
namespace Go.Proofs.Ytigbplmfhnamkaa
open Go.RowKit
/-- What is read: the command, the place, the error. -/
def readC (zs : List Int) (i : Nat) (e : Int) : Cm × Nat × Int :=
  let k := rNumV zs i e
  let i1 := rNumA zs i e
  let e1 := rNumE zs i e
  if k = 0 then (⟨k, 0, 0, noT, noT, noT, noT⟩, i1, e1) else
  let c := rNumV zs i1 e1
  let i2 := rNumA zs i1 e1
  let e2 := rNumE zs i1 e1
  let q := rNumV zs i2 e2
  let i3 := rNumA zs i2 e2
  let e3 := rNumE zs i2 e2
  let a := strOf (rTxtV zs i3 e3 16)
  let i4 := rTxtA zs i3 e3 16
  let e4 := rTxtE zs i3 e3 16
  if k = 2 then (⟨k, c, q, a, noT, noT, strOf (rTxtV zs i4 e4 64)⟩, rTxtA zs i4 e4 64, rTxtE zs i4 e4 64)
  else if k = 4 then (⟨k, c, q, a, noT, strOf (rTxtV zs i4 e4 64), strOf (rTxtV zs (rTxtA zs i4 e4 64) (rTxtE zs i4 e4 64) 64)⟩, rTxtA zs (rTxtA zs i4 e4 64) (rTxtE zs i4 e4 64) 64, rTxtE zs (rTxtA zs i4 e4 64) (rTxtE zs i4 e4 64) 64)
  else if k = 5 then (⟨k, c, q, a, strOf (rTxtV zs i4 e4 16), noT, noT⟩, rTxtA zs i4 e4 16, rTxtE zs i4 e4 16)
  else (⟨k, c, q, a, noT, noT, noT⟩, i4, e4)
def getE (zs : List Int) (i : Nat) (e : Int) : Int := if rightC (readC zs i e).1 then (readC zs i e).2.2 else rFailE (readC zs i e).2.2
def getA (zs : List Int) (i : Nat) (e : Int) : Nat := (readC zs i e).2.1
def getV (zs : List Int) (i : Nat) (e : Int) : Cm := if getE zs i e = 0 then (readC zs i e).1 else zeroC
section
variable {zs : List Int} {i i1 i2 i3 i4 i5 i6 : Nat} {e e1 e2 e3 e4 e5 e6 k c q : Int} {a b o : List Int}
theorem readC_none (h0 : rNumV zs i e = 0) (h1 : rNumA zs i e = i1) (h2 : rNumE zs i e = e1) : readC zs i e = (zeroC, i1, e1) := by
  unfold readC; simp only [h0, h1, h2, if_pos]; rfl
theorem readC_some (k0 : k ≠ 0) (h0 : rNumV zs i e = k) (h1 : rNumA zs i e = i1) (h2 : rNumE zs i e = e1) (h3 : rNumV zs i1 e1 = c) (h4 : rNumA zs i1 e1 = i2) (h5 : rNumE zs i1 e1 = e2)
    (h6 : rNumV zs i2 e2 = q) (h7 : rNumA zs i2 e2 = i3) (h8 : rNumE zs i2 e2 = e3) (h9 : rTxtV zs i3 e3 16 = a) (h10 : rTxtA zs i3 e3 16 = i4) (h11 : rTxtE zs i3 e3 16 = e4) :
    readC zs i e = if k = 2 then (⟨k, c, q, strOf a, noT, noT, strOf (rTxtV zs i4 e4 64)⟩, rTxtA zs i4 e4 64, rTxtE zs i4 e4 64)
      else if k = 4 then (⟨k, c, q, strOf a, noT, strOf (rTxtV zs i4 e4 64), strOf (rTxtV zs (rTxtA zs i4 e4 64) (rTxtE zs i4 e4 64) 64)⟩, rTxtA zs (rTxtA zs i4 e4 64) (rTxtE zs i4 e4 64) 64, rTxtE zs (rTxtA zs i4 e4 64) (rTxtE zs i4 e4 64) 64)
      else if k = 5 then (⟨k, c, q, strOf a, strOf (rTxtV zs i4 e4 16), noT, noT⟩, rTxtA zs i4 e4 16, rTxtE zs i4 e4 16)
      else (⟨k, c, q, strOf a, noT, noT, noT⟩, i4, e4) := by
  unfold readC; simp only [h0, h1, h2, h3, h4, h5, h6, h7, h8, h9, h10, h11, if_neg k0]
end
theorem Row.far {w w' : World} {g h : Nat} {t : TypeId} {cs : Array Value} (r : Row w h t cs) (hg : w.grownBy w' (some g)) (hne : g ≠ h) : Row w' h t cs :=
  (hg.block h r.lt (fun e => hne (by injection e with e; exact e.symm))).trans r
/-- The reader at g, a zero command at h2 for the answer, a command that is being read at h, and what was there. -/
structure Rz (t : TypeId) (W w : World) (B g : Nat) (zs : List Int) (i : Nat) (e : Int) (h2 h : Nat) (x : Cm) : Prop where
  r : Rdr t w B g zs i e
  res : Row w h2 23 (rowC zeroC)
  c : Row w h 23 (rowC x)
  old : W.grownBy w (some g)
  new : W.heap.size ≤ h2
  g2 : g < h2
  lt : h2 < h
/-- What a walk needs of a block that holds a command and may be written. -/
def Free7 (w : World) (h : Nat) : Prop := w.frozen? ⟨h, 0, none⟩ = false ∧ w.frozen? ⟨h, 1, none⟩ = false ∧ w.frozen? ⟨h, 2, none⟩ = false ∧ w.frozen? ⟨h, 3, none⟩ = false ∧ w.frozen? ⟨h, 4, none⟩ = false ∧ w.frozen? ⟨h, 5, none⟩ = false ∧ w.frozen? ⟨h, 6, none⟩ = false
theorem Row.free7 {w : World} {h : Nat} {t : TypeId} {cs : Array Value} (r : Row w h t cs) : Free7 w h := ⟨r.free 0, r.free 1, r.free 2, r.free 3, r.free 4, r.free 5, r.free 6⟩
theorem Row.cells7 {w : World} {h : Nat} {t : TypeId} {x : Cm} (r : Row w h t (rowC x)) : Cells7 w h x := (seven_of r).cells
section
variable {t : TypeId} {W w w' : World} {B g i i' h2 h : Nat} {zs : List Int} {e e' : Int} {x x' : Cm}
theorem Rz.step (s : Rz t W w B g zs i e h2 h x) (hr : Rdr t w' B g zs i' e') (hg : w.grownBy w' (some g)) : Rz t W w' B g zs i' e' h2 h x :=
  have h1 := s.g2
  have h3 := s.lt
  ⟨hr, s.res.far hg (by omega), s.c.far hg (by omega), grown_trans s.old hg, s.new, s.g2, s.lt⟩
theorem Rz.put (s : Rz t W w B g zs i e h2 h x) (j : Nat) (u : Value) (hx : (rowC x).setIfInBounds j u = rowC x') : Rz t W (w.setCell ⟨h, j, none⟩ u) B g zs i e h2 h x' :=
  have h1 := s.g2
  have h3 := s.lt
  have hl := s.r.low
  ⟨s.r.keep (fun k hk => Below.heap_setCell _ _ _ _ (by show k ≠ h; omega)) (Below.heap_setCell _ _ _ _ (by show g ≠ h; omega)),
    (Below.heap_setCell w ⟨h, j, none⟩ u h2 (by show h2 ≠ h; omega)).trans s.res, by have := s.c.put j u; rwa [hx] at this,
    ⟨s.old.os, s.old.tape, s.old.output, by have := s.old.size; simpa [World.setCell] using this, fun k hk hn => (Below.heap_setCell w ⟨h, j, none⟩ u k (by show k ≠ h; have := s.new; omega)).trans (s.old.block k hk hn)⟩, s.new, s.g2, s.lt⟩
/-- The reader and what was there, when the answer is written. -/
structure Kp (t : TypeId) (W w : World) (B g : Nat) (zs : List Int) (i : Nat) (e : Int) (h2 : Nat) : Prop where
  r : Rdr t w B g zs i e
  old : W.grownBy w (some g)
  new : W.heap.size ≤ h2
  g2 : g < h2
theorem Rz.kp (s : Rz t W w B g zs i e h2 h x) : Kp t W w B g zs i e h2 := ⟨s.r, s.old, s.new, s.g2⟩
theorem Kp.put (s : Kp t W w B g zs i e h2) (j : Nat) (u : Value) : Kp t W (w.setCell ⟨h2, j, none⟩ u) B g zs i e h2 :=
  have h1 := s.g2
  have hl := s.r.low
  ⟨s.r.keep (fun k hk => Below.heap_setCell _ _ _ _ (by show k ≠ h2; omega)) (Below.heap_setCell _ _ _ _ (by show g ≠ h2; omega)),
    ⟨s.old.os, s.old.tape, s.old.output, by have := s.old.size; simpa [World.setCell] using this, fun k hk hn => (Below.heap_setCell w ⟨h2, j, none⟩ u k (by show k ≠ h2; have := s.new; omega)).trans (s.old.block k hk hn)⟩, s.new, s.g2⟩
end
section
variable {W w : World} {B g i i' h2 h : Nat} {zs : List Int} {e e' v : Int} {a : List Int} {x : Cm}
theorem Rz.num (s : Rz 59 W w B g zs i e h2 h x) (hv : rNumV zs i e = v) (ha : rNumA zs i e = i') (he : rNumE zs i e = e') :
    Calls Try.prog 46 #[.pointer (some ⟨g, 0, none⟩)] w fun y w' => y = .returned (.int .i64 v) ∧ Cells7 w' h x ∧ Free7 w' h ∧ Rz 59 W w' B g zs i' e' h2 h x := by
  subst hv ha he
  exact (pnum_any s.r).mono fun _ _ ⟨hy, hr, hg⟩ => have z := s.step hr hg; ⟨hy, z.c.cells7, z.c.free7, z⟩
theorem Rz.text (s : Rz 59 W w B g zs i e h2 h x) (m : Int) (hv : rTxtV zs i e m = a) (ha : rTxtA zs i e m = i') (he : rTxtE zs i e m = e') :
    Calls Try.prog 47 #[.pointer (some ⟨g, 0, none⟩), .int .i64 m] w fun y w' => y = .returned (.string (strOf a)) ∧ Cells7 w' h x ∧ Free7 w' h ∧ Rz 59 W w' B g zs i' e' h2 h x := by
  subst hv ha he
  exact (ptext_any s.r m).mono fun _ _ ⟨hy, hr, hg⟩ => have z := s.step hr hg; ⟨hy, z.c.cells7, z.c.free7, z⟩
theorem Rz.rnum (s : Rz 45 W w B g zs i e h2 h x) (hv : rNumV zs i e = v) (ha : rNumA zs i e = i') (he : rNumE zs i e = e') :
    Calls Try.prog 37 #[.pointer (some ⟨g, 0, none⟩)] w fun y w' => y = .returned (.int .i64 v) ∧ Cells7 w' h x ∧ Free7 w' h ∧ Rz 45 W w' B g zs i' e' h2 h x := by
  subst hv ha he
  exact (rnum_to s.r).mono fun _ _ ⟨hy, hr, hg⟩ => have z := s.step hr hg; ⟨hy, z.c.cells7, z.c.free7, z⟩
theorem Rz.rtext (s : Rz 45 W w B g zs i e h2 h x) (m : Int) (hv : rTxtV zs i e m = a) (ha : rTxtA zs i e m = i') (he : rTxtE zs i e m = e') :
    Calls Try.prog 38 #[.pointer (some ⟨g, 0, none⟩), .int .i64 m] w fun y w' => y = .returned (.string (strOf a)) ∧ Cells7 w' h x ∧ Free7 w' h ∧ Rz 45 W w' B g zs i' e' h2 h x := by
  subst hv ha he
  exact (rtext_to s.r m).mono fun _ _ ⟨hy, hr, hg⟩ => have z := s.step hr hg; ⟨hy, z.c.cells7, z.c.free7, z⟩
end
end Go.Proofs.Ytigbplmfhnamkaa
