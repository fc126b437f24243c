/- What Read and the methods of the document's own reader come to. Conditions: the reader lies in memory as it must. -/
import Derived.Test.YtjkdccokiaejhaaQb
import Derived.Test.YtjkdccokiaejhaaQc
import Derived.BigQuiet
import Derived.Test.YtjkdccokiaejhaaQa
namespace Go.Proofs.Ytjkdccokiaejhaa
set_option maxRecDepth 100000
open Go.RowKit
section
variable {w : World} {B g i : Nat} {zs : List Int} {e : Int}
theorem Rdr.place_to {t : TypeId} (h : Rdr t w B g zs i e) (z : Int) (j : Nat) (hz : z = j) (hj : j ≤ zs.length) : Rdr t (w.setCell ⟨g, 1, none⟩ (.int .i64 z)) B g zs j e := by
  subst hz; exact h.place hj
theorem rtests {k : Nat} {p : Int} (hk : k ≤ 9) (h : ¬ ((0 < k ∧ p = 0) ∨ (k = 9 ∧ 1 < p))) :
    (((k : Int) == 9) = false ∧ decide (0 < k) = false ∧ decide (0 < (k : Int)) = false) ∨ (((k : Int) == 9) = false ∧ decide (0 < k) = true ∧ decide (0 < (k : Int)) = true ∧ (p == 0) = false) ∨
    (((k : Int) == 9) = true ∧ decide (1 < p) = false ∧ decide (0 < k) = true ∧ decide (0 < (k : Int)) = true ∧ (p == 0) = false) := by
  rcases tests hk h with ⟨a, b, c⟩ | ⟨a, b, c, d⟩ | ⟨a, b, c, d, f⟩
  · exact .inl ⟨c, a, b⟩
  · exact .inr (.inl ⟨d, a, b, c⟩)
  · exact .inr (.inr ⟨d, f, a, b, c⟩)
theorem rtests_bad {k : Nat} {p : Int} (h : (0 < k ∧ p = 0) ∨ (k = 9 ∧ 1 < p)) :
    (((k : Int) == 9) = true ∧ decide (1 < p) = true) ∨ (((k : Int) == 9) = false ∧ decide (0 < k) = true ∧ decide (0 < (k : Int)) = true ∧ (p == 0) = true) ∨
    (((k : Int) == 9) = true ∧ decide (1 < p) = false ∧ decide (0 < k) = true ∧ decide (0 < (k : Int)) = true ∧ (p == 0) = true) := by
  by_cases h9 : k = 9
  · have a : ((k : Int) == 9) = true := by subst h9; decide
    by_cases hp : 1 < p
    · exact .inl ⟨a, decide_eq_true hp⟩
    · have h0 : 0 < k ∧ p = 0 := by omega
      exact .inr (.inr ⟨a, decide_eq_false hp, decide_eq_true h0.1, decide_eq_true (by omega), by rw [h0.2]; rfl⟩)
  · have h0 : 0 < k ∧ p = 0 := by omega
    exact .inr (.inl ⟨by rw [beq_eq_false_iff_ne]; omega, decide_eq_true h0.1, decide_eq_true (by omega), by rw [h0.2]; rfl⟩)
theorem and8_int {p : Int} {q : Nat} (h0 : 0 ≤ p) (h1 : p ≤ 255) (hq : (p % 128).toNat = q) : bits .and .u8 p 127 = (q : Int) := by
  obtain ⟨P, rfl⟩ := Int.eq_ofNat_of_zero_le h0
  rw [← hq]
  refine (and8_127 P (by omega)).trans ?_
  omega
end
end Go.Proofs.Ytjkdccokiaejhaa
/- What the other methods of the document's own reader come to. Conditions: the reader lies in memory as it must. -/
namespace Go.Proofs.Ytjkdccokiaejhaa
set_option maxRecDepth 100000
open Go.RowKit
section
variable {w : World} {B g i : Nat} {zs : List Int} {e : Int}
end
end Go.Proofs.Ytjkdccokiaejhaa
/- What Count and Text of the document's own reader come to. Conditions: the reader lies in memory as it must. -/
namespace Go.Proofs.Ytjkdccokiaejhaa
set_option maxRecDepth 100000
open Go.RowKit
section
variable {w : World} {B g i : Nat} {zs : List Int} {e : Int}
theorem num_fine (h : rNumE zs i e = 0) : e = 0 ∧ rdE (zs.drop i) = 0 ∧ rNumV zs i e = rdV (zs.drop i) ∧ rNumA zs i e = i + rdS (zs.drop i) := by
  have h1 : e = 0 ∧ rdE (zs.drop i) = 0 := by
    unfold rNumE at h
    by_cases he : e = 0
    · rw [if_pos he] at h; exact ⟨he, h⟩
    · rw [if_neg he] at h; exact absurd h he
  exact ⟨h1.1, h1.2, by unfold rNumV; rw [if_pos h], by unfold rNumA; rw [if_pos h]⟩
theorem num_bad (h : rNumE zs i e ≠ 0) : rNumV zs i e = 0 ∧ rNumA zs i e = i ∧ ∀ m, rCntE zs i e m = rNumE zs i e ∧ rTxtE zs i e m = rNumE zs i e := by
  refine ⟨by unfold rNumV; rw [if_neg h], by unfold rNumA; rw [if_neg h], fun m => ?_⟩
  unfold rNumE at h
  unfold rCntE rTxtE txtE rNumE
  by_cases he : e = 0
  · rw [if_pos he] at h
    have hc : cntE (zs.drop i) m = rdE (zs.drop i) := by unfold cntE; rw [if_neg h]
    rw [if_pos he, if_pos he, if_pos he, hc, if_neg h]
    exact ⟨rfl, rfl⟩
  · rw [if_neg he, if_neg he, if_neg he]; exact ⟨rfl, rfl⟩
end
end Go.Proofs.Ytjkdccokiaejhaa
/- A reader and a command that is being read: what becomes of both; what is read, in plain words. No condition. -/
namespace Go.Proofs.Ytjkdccokiaejhaa
set_option maxRecDepth 100000
open Go.RowKit
/-- What is read: the command, the place, the error. -/
def readC (zs : List Int) (i : Nat) (e : Int) : Cm × Nat × Int :=
  let k := rNumV zs i e
  let i1 := rNumA zs i e
  let e1 := rNumE zs i e
  if k = 0 then (⟨k, 0, 0, noT, noT, noT, noT⟩, i1, e1) else
  let c := rNumV zs i1 e1
  let i2 := rNumA zs i1 e1
  let e2 := rNumE zs i1 e1
  let q := rNumV zs i2 e2
  let i3 := rNumA zs i2 e2
  let e3 := rNumE zs i2 e2
  let a := strOf (rTxtV zs i3 e3 16)
  let i4 := rTxtA zs i3 e3 16
  let e4 := rTxtE zs i3 e3 16
  if k = 2 then (⟨k, c, q, a, noT, noT, strOf (rTxtV zs i4 e4 64)⟩, rTxtA zs i4 e4 64, rTxtE zs i4 e4 64)
  else if k = 4 then (⟨k, c, q, a, noT, strOf (rTxtV zs i4 e4 64), strOf (rTxtV zs (rTxtA zs i4 e4 64) (rTxtE zs i4 e4 64) 64)⟩, rTxtA zs (rTxtA zs i4 e4 64) (rTxtE zs i4 e4 64) 64, rTxtE zs (rTxtA zs i4 e4 64) (rTxtE zs i4 e4 64) 64)
  else if k = 5 then (⟨k, c, q, a, strOf (rTxtV zs i4 e4 16), noT, noT⟩, rTxtA zs i4 e4 16, rTxtE zs i4 e4 16)
  else (⟨k, c, q, a, noT, noT, noT⟩, i4, e4)
def getE (zs : List Int) (i : Nat) (e : Int) : Int := if rightC (readC zs i e).1 then (readC zs i e).2.2 else rFailE (readC zs i e).2.2
def getA (zs : List Int) (i : Nat) (e : Int) : Nat := (readC zs i e).2.1
def getV (zs : List Int) (i : Nat) (e : Int) : Cm := if getE zs i e = 0 then (readC zs i e).1 else zeroC
section
variable {zs : List Int} {i i1 i2 i3 i4 i5 i6 : Nat} {e e1 e2 e3 e4 e5 e6 k c q : Int} {a b o : List Int}
theorem readC_none (h0 : rNumV zs i e = 0) (h1 : rNumA zs i e = i1) (h2 : rNumE zs i e = e1) : readC zs i e = (zeroC, i1, e1) := by
  unfold readC; simp only [h0, h1, h2, if_pos]; rfl
theorem readC_some (k0 : k ≠ 0) (h0 : rNumV zs i e = k) (h1 : rNumA zs i e = i1) (h2 : rNumE zs i e = e1) (h3 : rNumV zs i1 e1 = c) (h4 : rNumA zs i1 e1 = i2) (h5 : rNumE zs i1 e1 = e2)
    (h6 : rNumV zs i2 e2 = q) (h7 : rNumA zs i2 e2 = i3) (h8 : rNumE zs i2 e2 = e3) (h9 : rTxtV zs i3 e3 16 = a) (h10 : rTxtA zs i3 e3 16 = i4) (h11 : rTxtE zs i3 e3 16 = e4) :
    readC zs i e = if k = 2 then (⟨k, c, q, strOf a, noT, noT, strOf (rTxtV zs i4 e4 64)⟩, rTxtA zs i4 e4 64, rTxtE zs i4 e4 64)
      else if k = 4 then (⟨k, c, q, strOf a, noT, strOf (rTxtV zs i4 e4 64), strOf (rTxtV zs (rTxtA zs i4 e4 64) (rTxtE zs i4 e4 64) 64)⟩, rTxtA zs (rTxtA zs i4 e4 64) (rTxtE zs i4 e4 64) 64, rTxtE zs (rTxtA zs i4 e4 64) (rTxtE zs i4 e4 64) 64)
      else if k = 5 then (⟨k, c, q, strOf a, strOf (rTxtV zs i4 e4 16), noT, noT⟩, rTxtA zs i4 e4 16, rTxtE zs i4 e4 16)
      else (⟨k, c, q, strOf a, noT, noT, noT⟩, i4, e4) := by
  unfold readC; simp only [h0, h1, h2, h3, h4, h5, h6, h7, h8, h9, h10, h11, if_neg k0]
end
theorem Row.far {w w' : World} {g h : Nat} {t : TypeId} {cs : Array Value} (r : Row w h t cs) (hg : w.grownBy w' (some g)) (hne : g ≠ h) : Row w' h t cs :=
  (hg.block h r.lt (fun e => hne (by injection e with e; exact e.symm))).trans r
/-- The reader at g, a zero command at h2 for the answer, a command that is being read at h, and what was there. -/
structure Rz (t : TypeId) (W w : World) (B g : Nat) (zs : List Int) (i : Nat) (e : Int) (h2 h : Nat) (x : Cm) : Prop where
  r : Rdr t w B g zs i e
  res : Row w h2 32 (rowC zeroC)
  c : Row w h 32 (rowC x)
  old : W.grownBy w (some g)
  new : W.heap.size ≤ h2
  g2 : g < h2
  lt : h2 < h
/-- What a walk needs of a block that holds a command and may be written. -/
def Free7 (w : World) (h : Nat) : Prop := w.frozen? ⟨h, 0, none⟩ = false ∧ w.frozen? ⟨h, 1, none⟩ = false ∧ w.frozen? ⟨h, 2, none⟩ = false ∧ w.frozen? ⟨h, 3, none⟩ = false ∧ w.frozen? ⟨h, 4, none⟩ = false ∧ w.frozen? ⟨h, 5, none⟩ = false ∧ w.frozen? ⟨h, 6, none⟩ = false
theorem Row.free7 {w : World} {h : Nat} {t : TypeId} {cs : Array Value} (r : Row w h t cs) : Free7 w h := ⟨r.free 0, r.free 1, r.free 2, r.free 3, r.free 4, r.free 5, r.free 6⟩
theorem Row.cells7 {w : World} {h : Nat} {t : TypeId} {x : Cm} (r : Row w h t (rowC x)) : Cells7 w h x := (seven_of r).cells
section
variable {t : TypeId} {W w w' : World} {B g i i' h2 h : Nat} {zs : List Int} {e e' : Int} {x x' : Cm}
theorem Rz.step (s : Rz t W w B g zs i e h2 h x) (hr : Rdr t w' B g zs i' e') (hg : w.grownBy w' (some g)) : Rz t W w' B g zs i' e' h2 h x :=
  have h1 := s.g2
  have h3 := s.lt
  ⟨hr, s.res.far hg (by omega), s.c.far hg (by omega), grown_trans s.old hg, s.new, s.g2, s.lt⟩
theorem Rz.put (s : Rz t W w B g zs i e h2 h x) (j : Nat) (u : Value) (hx : (rowC x).setIfInBounds j u = rowC x') : Rz t W (w.setCell ⟨h, j, none⟩ u) B g zs i e h2 h x' :=
  have h1 := s.g2
  have h3 := s.lt
  have hl := s.r.low
  ⟨s.r.keep (fun k hk => Below.heap_setCell _ _ _ _ (by show k ≠ h; omega)) (Below.heap_setCell _ _ _ _ (by show g ≠ h; omega)),
    (Below.heap_setCell w ⟨h, j, none⟩ u h2 (by show h2 ≠ h; omega)).trans s.res, by have := s.c.put j u; rwa [hx] at this,
    ⟨s.old.os, s.old.tape, s.old.output, by have := s.old.size; simpa [World.setCell] using this, fun k hk hn => (Below.heap_setCell w ⟨h, j, none⟩ u k (by show k ≠ h; have := s.new; omega)).trans (s.old.block k hk hn)⟩, s.new, s.g2, s.lt⟩
/-- The reader and what was there, when the answer is written. -/
structure Kp (t : TypeId) (W w : World) (B g : Nat) (zs : List Int) (i : Nat) (e : Int) (h2 : Nat) : Prop where
  r : Rdr t w B g zs i e
  old : W.grownBy w (some g)
  new : W.heap.size ≤ h2
  g2 : g < h2
theorem Rz.kp (s : Rz t W w B g zs i e h2 h x) : Kp t W w B g zs i e h2 := ⟨s.r, s.old, s.new, s.g2⟩
theorem Kp.put (s : Kp t W w B g zs i e h2) (j : Nat) (u : Value) : Kp t W (w.setCell ⟨h2, j, none⟩ u) B g zs i e h2 :=
  have h1 := s.g2
  have hl := s.r.low
  ⟨s.r.keep (fun k hk => Below.heap_setCell _ _ _ _ (by show k ≠ h2; omega)) (Below.heap_setCell _ _ _ _ (by show g ≠ h2; omega)),
    ⟨s.old.os, s.old.tape, s.old.output, by have := s.old.size; simpa [World.setCell] using this, fun k hk hn => (Below.heap_setCell w ⟨h2, j, none⟩ u k (by show k ≠ h2; have := s.new; omega)).trans (s.old.block k hk hn)⟩, s.new, s.g2⟩
end
section
variable {W w : World} {B g i i' h2 h : Nat} {zs : List Int} {e e' v : Int} {a : List Int} {x : Cm}
end
end Go.Proofs.Ytjkdccokiaejhaa
/- Commands written one behind the other, and read again, in plain words; rows of commands. No condition: nothing here speaks of a program. -/
namespace Go.Proofs.Ytjkdccokiaejhaa
set_option maxRecDepth 100000
open Go.RowKit
section
variable {zs ys : List Int} {i : Nat}
theorem num_read (n : Int) (hd : zs.drop i = num7 n ++ ys) (h0 : -9223372036854775808 ≤ n) (h1 : n ≤ 9223372036854775807) :
    rNumV zs i 0 = n ∧ rNumA zs i 0 = i + (num7 n).length ∧ rNumE zs i 0 = 0 ∧ zs.drop (i + (num7 n).length) = ys := by
  obtain ⟨e1, e2, e3⟩ := rd_num7 n ys h0 h1
  have ee : rNumE zs i 0 = 0 := by unfold rNumE; rw [if_pos rfl, hd, e3]
  refine ⟨?_, ?_, ee, ?_⟩
  · unfold rNumV; rw [ee, if_pos rfl, hd, e1]
  · unfold rNumA; rw [ee, if_pos rfl, hd, e2]
  · rw [← List.drop_drop, hd, List.drop_left]
theorem text_read (s : ByteArray) (m : Int) (hd : zs.drop i = text7 s ++ ys) (hs : (s.size : Int) ≤ m) (hm : m ≤ 1000) :
    strOf (rTxtV zs i 0 m) = s ∧ rTxtA zs i 0 m = i + (text7 s).length ∧ rTxtE zs i 0 m = 0 ∧ zs.drop (i + (text7 s).length) = ys := by
  have hd' : zs.drop i = num7 (s.size : Int) ++ (strL s ++ ys) := by rw [hd]; unfold text7; rw [List.append_assoc]
  obtain ⟨e1, e2, e3⟩ := rd_num7 (s.size : Int) (strL s ++ ys) (by omega) (by omega)
  have ec : cntE (zs.drop i) m = 0 := by unfold cntE; rw [hd', e3, if_pos rfl, e1, if_neg (by omega)]
  have et : txtE (zs.drop i) m = 0 := by
    unfold txtE
    rw [ec, if_pos rfl, hd', e1, e2, List.length_append, List.length_append, length_strL, if_neg (by omega)]
  have ee : rTxtE zs i 0 m = 0 := by unfold rTxtE; rw [if_pos rfl, et]
  refine ⟨?_, ?_, ee, ?_⟩
  · unfold rTxtV
    rw [ee, if_pos rfl, hd', e1, e2, List.drop_left, Int.toNat_natCast, ← length_strL, List.take_left, str_strL]
  · unfold rTxtA
    rw [ee, if_pos rfl, hd', e1, e2, text7_len, Int.toNat_natCast, Nat.add_assoc]
  · rw [← List.drop_drop, hd, List.drop_left]
end
theorem noT_of {a : ByteArray} (h : noT = a) : a = noT := h.symm
/-- A right command's bytes are read as the command. -/
theorem read_pack {zs ys : List Int} {i : Nat} {x : Cm} (hr : rightC x = true) (hd : zs.drop i = packC x ++ ys) : readC zs i 0 = (x, i + (packC x).length, 0) := by
  have hp : packC x = bytesC x := by unfold packC; rw [hr]; rfl
  rw [hp] at hd ⊢
  by_cases h0 : x.k = 0
  · have hx := right_zero hr h0
    subst hx
    have hb : bytesC zeroC = num7 0 := rfl
    rw [hb] at hd ⊢
    obtain ⟨v, a, e, _⟩ := num_read 0 hd (by omega) (by omega)
    exact readC_none v a e
  · obtain ⟨hn, hbd, k1, k5⟩ := right_kind hr h0
    obtain ⟨c1, c8, q1, qm, sa, sb, so, sv⟩ := bound_says hbd
    have hb : bytesC x = num7 x.k ++ (num7 x.c ++ (num7 x.q ++ (text7 x.key ++ tailC x))) := by unfold bytesC; rw [if_neg h0]; simp only [List.append_assoc]
    rw [hb] at hd ⊢
    simp only [List.append_assoc] at hd
    obtain ⟨v1, a1, e1, d1⟩ := num_read x.k hd (by omega) (by omega)
    obtain ⟨v2, a2, e2, d2⟩ := num_read x.c d1 (by omega) (by omega)
    obtain ⟨v3, a3, e3, d3⟩ := num_read x.q d2 (by omega) (by omega)
    obtain ⟨v4, a4, e4, d4⟩ := text_read x.key 16 d3 (by omega) (by omega)
    rw [readC_some h0 v1 a1 e1 v2 a2 e2 v3 a3 e3 rfl a4 e4, v4]
    have hl : (num7 x.k ++ (num7 x.c ++ (num7 x.q ++ (text7 x.key ++ tailC x)))).length = (num7 x.k).length + (num7 x.c).length + (num7 x.q).length + (text7 x.key).length + (tailC x).length := by simp only [List.length_append]; omega
    rw [hl]
    obtain ⟨k, c, q, a, b, o, v⟩ := x
    unfold namedC at hn
    unfold tailC at d4 ⊢
    simp only at *
    by_cases g2 : k = 2
    · rw [if_neg (by omega), if_pos g2] at hn
      rw [if_pos g2] at d4 ⊢
      simp only [Cm.mk.injEq, true_and, and_true] at hn
      obtain ⟨w1, b1, f1, _⟩ := text_read v 64 d4 (by omega) (by omega)
      rw [if_pos g2, w1, b1, f1, hn.1, hn.2]
      simp only [Prod.mk.injEq, true_and, and_true]
      omega
    · by_cases g4 : k = 4
      · rw [if_neg (by omega), if_neg g2, if_pos g4] at hn
        rw [if_neg g2, if_pos g4] at d4 ⊢
        simp only [Cm.mk.injEq, true_and, and_true] at hn
        rw [List.append_assoc] at d4
        obtain ⟨w1, b1, f1, d5⟩ := text_read o 64 d4 (by omega) (by omega)
        obtain ⟨w2, b2, f2, _⟩ := text_read v 64 d5 (by omega) (by omega)
        rw [if_neg g2, if_pos g4, w1, b1, f1, w2, b2, f2, hn, List.length_append]
        simp only [Prod.mk.injEq, true_and, and_true]
        omega
      · by_cases g5 : k = 5
        · rw [if_neg (by omega), if_neg g2, if_neg g4, if_pos g5] at hn
          rw [if_neg g2, if_neg g4, if_pos g5] at d4 ⊢
          simp only [Cm.mk.injEq, true_and] at hn
          obtain ⟨w1, b1, f1, _⟩ := text_read b 16 d4 (by omega) (by omega)
          rw [if_neg g2, if_neg g4, if_pos g5, w1, b1, f1, hn.1, hn.2]
          simp only [Prod.mk.injEq, true_and, and_true]
          omega
        · rw [if_pos (by omega)] at hn
          rw [if_neg g2, if_neg g4, if_neg g5] at ⊢
          simp only [Cm.mk.injEq, true_and] at hn
          rw [if_neg g2, if_neg g4, if_neg g5, hn.1, hn.2.1, hn.2.2]
          simp only [Prod.mk.injEq, true_and, and_true, List.length_nil]
          omega
theorem get_pack {zs ys : List Int} {i : Nat} {x : Cm} (hr : rightC x = true) (hd : zs.drop i = packC x ++ ys) : getV zs i 0 = x ∧ getA zs i 0 = i + (packC x).length ∧ getE zs i 0 = 0 := by
  have h := read_pack hr hd
  have he : getE zs i 0 = 0 := by unfold getE; rw [h]; simp only; rw [hr]; rfl
  refine ⟨?_, ?_, he⟩
  · unfold getV; rw [he, if_pos rfl, h]
  · unfold getA; rw [h]
/-- So many commands' bytes, their cells. -/
def encC (ws : List Cm) : List Int := ws.flatMap packC
def cellsC (ws : List Cm) : List Value := ws.flatMap Cm.l
theorem encC_snoc (ws : List Cm) (x : Cm) : encC (ws ++ [x]) = encC ws ++ packC x := by unfold encC; rw [List.flatMap_append]; simp
theorem cellsC_snoc (ws : List Cm) (x : Cm) : cellsC (ws ++ [x]) = cellsC ws ++ x.l := by unfold cellsC; rw [List.flatMap_append]; simp
theorem encC_len (ws : List Cm) : (encC ws).length ≤ 300 * ws.length := by
  induction ws with
  | nil => simp [encC]
  | cons x ws ih =>
    have h := packC_len x
    unfold encC at ih ⊢
    rw [List.flatMap_cons, List.length_append, List.length_cons]
    omega
theorem cellsC_len (ws : List Cm) : (cellsC ws).length = ws.length * 7 := by
  induction ws with
  | nil => rfl
  | cons x ws ih =>
    unfold cellsC at ih ⊢
    rw [List.flatMap_cons, List.length_append, List.length_cons, ih]
    have : x.l.length = 7 := rfl
    omega
theorem octets_packC (x : Cm) : Octets (packC x) := by
  have ht : ∀ s, Octets (text7 s) := fun s z hz => by
    unfold text7 at hz
    rcases List.mem_append.1 hz with hz | hz
    · exact octets_num7 _ z hz
    · exact octets_strL s z hz
  have ha : ∀ {a b : List Int}, Octets a → Octets b → Octets (a ++ b) := fun h g z hz => by
    rcases List.mem_append.1 hz with hz | hz
    · exact h z hz
    · exact g z hz
  have h0 : Octets [] := fun z hz => by cases hz
  unfold packC
  split
  · unfold bytesC
    split
    · exact octets_num7 _
    · refine ha (ha (ha (ha (octets_num7 _) (octets_num7 _)) (octets_num7 _)) (ht _)) ?_
      unfold tailC
      split
      · exact ht _
      · split
        · exact ha (ht _) (ht _)
        · split
          · exact ht _
          · exact h0
  · exact h0
theorem octets_encC (ws : List Cm) : Octets (encC ws) := by
  intro z hz
  unfold encC at hz
  obtain ⟨x, _, hx⟩ := List.mem_flatMap.1 hz
  exact octets_packC x z hx
/-- Behind the first ones. -/
theorem encC_at {ws : List Cm} {j : Nat} (hj : j < ws.length) : (encC ws).drop (encC (ws.take j)).length = packC ws[j] ++ encC (ws.drop (j + 1)) := by
  have h : ws = ws.take j ++ (ws[j] :: ws.drop (j + 1)) := by rw [← List.drop_eq_getElem_cons hj, List.take_append_drop]
  have e : encC ws = encC (ws.take j) ++ (packC ws[j] ++ encC (ws.drop (j + 1))) := by
    conv => lhs; rw [h]
    unfold encC
    rw [List.flatMap_append, List.flatMap_cons]
  rw [e, List.drop_left]
theorem encC_next {ws : List Cm} {j : Nat} (hj : j < ws.length) : (encC (ws.take (j + 1))).length = (encC (ws.take j)).length + (packC ws[j]).length := by
  rw [List.take_succ_eq_append_getElem hj, encC_snoc, List.length_append]
theorem cellsC_at {ws : List Cm} {j m : Nat} (hj : j < ws.length) (hm : m < 7) : (cellsC ws)[j * 7 + m]? = (ws[j]).l[m]? := by
  have h : ws = ws.take j ++ (ws[j] :: ws.drop (j + 1)) := by rw [← List.drop_eq_getElem_cons hj, List.take_append_drop]
  have e : cellsC ws = cellsC (ws.take j) ++ ((ws[j]).l ++ cellsC (ws.drop (j + 1))) := by
    conv => lhs; rw [h]
    unfold cellsC
    rw [List.flatMap_append, List.flatMap_cons]
  have hl : (cellsC (ws.take j)).length = j * 7 := by rw [cellsC_len, List.length_take]; congr 1; omega
  have h7 : ((ws[j]).l).length = 7 := rfl
  rw [e, List.getElem?_append_right (by omega), hl, Nat.add_sub_cancel_left, List.getElem?_append_left (by omega)]
theorem pack_some {x : Cm} (h : rightC x = true) : 0 < (packC x).length := by
  unfold packC
  rw [h, if_pos rfl]
  unfold bytesC
  have := (num7_len x.k).1
  have h0 := (num7_len 0).1
  split
  · omega
  · simp only [List.length_append]; omega
theorem pack_none {x : Cm} (h : rightC x = false) : packC x = [] := by unfold packC; rw [h]; rfl
end Go.Proofs.Ytjkdccokiaejhaa
/- A right cell's and a right letter's bytes are read as themselves, in plain words. No condition: nothing here speaks of a program. -/
namespace Go.Proofs.Ytjkdccokiaejhaa
open Go.RowKit
theorem rightB_says {e r : Int} (h : rightB e r = true) : (0 ≤ e ∧ e ≤ 1073741824) ∧ 0 ≤ r ∧ r < 7 := by
  unfold rightB repB at h
  simp only [Bool.and_eq_true, decide_eq_true_eq] at h
  omega
theorem rightD_says {d : List Int} (h : rightD d = true) (hl : d.length = 7) : ∀ n, n ∈ d → 0 ≤ n ∧ n ≤ 1073741824 := fun n hn => by
  unfold rightD at h
  rw [allTo_iff] at h
  obtain ⟨j, hj⟩ := List.getElem?_of_mem hn
  have hlt : j < d.length := by
    rcases Nat.lt_or_ge j d.length with h1 | h1
    · exact h1
    · rw [List.getElem?_eq_none h1] at hj; cases hj
  have := h j (by omega)
  unfold okAt slotB at this
  rw [ix_lt d hlt] at this
  rw [List.getElem?_eq_getElem hlt] at hj
  injection hj with hj
  rw [hj] at this
  simp only [Bool.and_eq_true, decide_eq_true_eq] at this
  exact this
theorem rightAl_says {a : List Int} (h : rightAl a = true) (hl : a.length = 8) : ∀ n, n ∈ a → I64 n := fun n hn => by
  cases a with
  | nil => cases hn
  | cons s d =>
    have hd : d.length = 7 := by simpa using hl
    unfold rightAl rightA at h
    simp only [Bool.and_eq_true, decide_eq_true_eq] at h
    have hx : ix (s :: d) 0 = s := rfl
    rw [hx] at h
    unfold I64
    rcases List.mem_cons.1 hn with rfl | hn
    · omega
    · have := rightD_says h.2 hd n hn; omega
theorem dChk_ok {α : Type} {b : α → Bool} {x : Rdm α} {a : α} {j : Nat} (h : x = .ok (a, j)) (hb : b a = true) : dChk b x = .ok (a, j) := by
  unfold dChk
  rw [h]
  simp only [bnd, hb, if_true]
section
variable {zs ys : List Int} {i : Nat}
theorem bal_there {b : Int × Int} (hd : zs.drop i = encB b ++ ys) (h1 : I64 b.1) (h2 : I64 b.2) : dBal zs i = .ok (b, i + (encB b).length) := by
  unfold encB at hd ⊢
  rw [List.append_assoc] at hd
  have t1 := mnum_there b.1 hd h1.1 h1.2
  have t2 := mnum_there b.2 (drop_next hd) h2.1 h2.2
  unfold dBal
  rw [t1]
  simp only [bnd]
  rw [t2]
  simp only [List.length_append, Nat.add_assoc]
theorem nums_there : ∀ (l : List Int) {i : Nat} {ys : List Int}, zs.drop i = encN l ++ ys → (∀ n, n ∈ l → I64 n) → dNums zs l.length i = .ok (l, i + (encN l).length)
  | [], i, ys, _, _ => by simp [dNums, encN]
  | x :: r, i, ys, hd, h => by
    rw [encN_cons, List.append_assoc] at hd
    have hx := h x (List.mem_cons_self ..)
    have t1 := mnum_there x hd hx.1 hx.2
    have t2 := nums_there r (drop_next hd) (fun n hn => h n (List.mem_cons_of_mem _ hn))
    rw [List.length_cons]
    unfold dNums
    rw [t1]
    simp only [bnd]
    rw [t2, encN_cons, List.length_append, Nat.add_assoc]
theorem at_there {a : List Int} (hd : zs.drop i = encN a ++ ys) (h : rightAl a = true) (hl : a.length = 8) : dAt zs i = .ok (a, i + (encN a).length) := by
  have t := nums_there a hd (rightAl_says h hl)
  rw [hl] at t
  exact dChk_ok t h
theorem cm0_there {x : Cm} (hr : rightC x = true) (hd : zs.drop i = packC x ++ ys) : dCm0 zs i = .ok (x, i + (packC x).length) := by
  have hp : packC x = bytesC x := by unfold packC; rw [hr]; rfl
  rw [hp] at hd ⊢
  by_cases h0 : x.k = 0
  · have hx := right_zero hr h0
    subst hx
    have hb : bytesC zeroC = num7 0 := rfl
    rw [hb] at hd ⊢
    have t := mnum_there 0 hd (by omega) (by omega)
    unfold dCm0
    rw [t]
    simp only [bnd, if_true]
  · obtain ⟨hn, hbd, k1, k5⟩ := right_kind hr h0
    obtain ⟨c1, c8, q1, qm, sa, sb, so, sv⟩ := bound_says hbd
    have hb : bytesC x = num7 x.k ++ (num7 x.c ++ (num7 x.q ++ (text7 x.key ++ tailC x))) := by unfold bytesC; rw [if_neg h0]; simp only [List.append_assoc]
    rw [hb] at hd ⊢
    simp only [List.append_assoc] at hd
    have t1 := mnum_there x.k hd (by omega) (by omega)
    have d1 := drop_next hd
    have t2 := mnum_there x.c d1 (by omega) (by omega)
    have d2 := drop_next d1
    have t3 := mnum_there x.q d2 (by omega) (by omega)
    have d3 := drop_next d2
    have t4 := mtxt_there x.key 16 d3 (by omega) (by omega)
    have d4 := drop_next d3
    have hl : (num7 x.k ++ (num7 x.c ++ (num7 x.q ++ (text7 x.key ++ tailC x)))).length = (num7 x.k).length + (num7 x.c).length + (num7 x.q).length + (text7 x.key).length + (tailC x).length := by simp only [List.length_append]; omega
    rw [hl]
    unfold dCm0
    rw [t1]
    simp only [bnd]
    rw [if_neg h0, t2]
    dsimp only
    rw [t3]
    dsimp only
    rw [t4]
    dsimp only
    obtain ⟨k, c, q, a, b, o, v⟩ := x
    unfold namedC at hn
    unfold tailC at d4 ⊢
    simp only at *
    by_cases g2 : k = 2
    · rw [if_neg (by omega), if_pos g2] at hn
      rw [if_pos g2] at d4 ⊢
      simp only [Cm.mk.injEq, true_and] at hn
      have t5 := mtxt_there v 64 d4 (by omega) (by omega)
      rw [if_pos g2, t5]
      simp only [hn.1, hn.2.1, Nat.add_assoc]
    · by_cases g4 : k = 4
      · rw [if_neg (by omega), if_neg g2, if_pos g4] at hn
        rw [if_neg g2, if_pos g4] at d4 ⊢
        simp only [Cm.mk.injEq, true_and] at hn
        rw [List.append_assoc] at d4
        have t5 := mtxt_there o 64 d4 (by omega) (by omega)
        have t6 := mtxt_there v 64 (drop_next d4) (by omega) (by omega)
        rw [if_neg g2, if_pos g4, t5]
        dsimp only
        rw [t6]
        simp only [hn.1, List.length_append, Nat.add_assoc]
      · by_cases g5 : k = 5
        · rw [if_neg (by omega), if_neg g2, if_neg g4, if_pos g5] at hn
          rw [if_neg g2, if_neg g4, if_pos g5] at d4 ⊢
          simp only [Cm.mk.injEq, true_and] at hn
          have t5 := mtxt_there b 16 d4 (by omega) (by omega)
          rw [if_neg g2, if_neg g4, if_pos g5, t5]
          simp only [hn.1, hn.2, Nat.add_assoc]
        · rw [if_pos (by omega)] at hn
          simp only [Cm.mk.injEq, true_and] at hn
          rw [if_neg g2, if_neg g4, if_neg g5, if_neg g2, if_neg g4, if_neg g5]
          simp only [hn.1, hn.2.1, hn.2.2, List.length_nil, Nat.add_zero, Nat.add_assoc]
theorem cm_there {x : Cm} (hr : rightC x = true) (hd : zs.drop i = packC x ++ ys) : dCm zs i = .ok (x, i + (packC x).length) := dChk_ok (cm0_there hr hd) hr
/-- What a right cell is. -/
structure ClOk (x : Cl) : Prop where
  st : 0 ≤ x.st ∧ x.st ≤ 3
  p : (0 ≤ x.p.1 ∧ x.p.1 ≤ 1073741824) ∧ 0 ≤ x.p.2 ∧ x.p.2 < 7
  v : (0 ≤ x.v.1 ∧ x.v.1 ≤ 1073741824) ∧ 0 ≤ x.v.2 ∧ x.v.2 < 7
  c : rightC x.c = true
  a : rightAl x.a = true
  s : x.s = true → x.st = 1
  z : x.st = 0 → x.c = zeroC ∧ x.a = zero8 ∧ x.v = (0, 0) ∧ x.s = false
theorem rightCl_says {x : Cl} (h : rightCl x = true) : ClOk x := by
  unfold rightCl at h
  simp only [Bool.and_eq_true, Bool.or_eq_true, Bool.not_eq_true', decide_eq_true_eq, beq_iff_eq, beq_eq_false_iff_ne, sameP_iff, sameC_iff] at h
  obtain ⟨h1, h2, h3, h4, h5, _, h6, h7⟩ := h
  have hs : x.s = true → x.st = 1 := fun e => by
    rcases h6 with h6 | h6
    · rw [e] at h6; cases h6
    · exact h6.1
  refine ⟨h1, rightB_says h2, rightB_says h3, h4, h5, hs, fun e => ?_⟩
  rcases h7 with h7 | h7
  · exact absurd e h7
  · refine ⟨h7.1, h7.2.1, h7.2.2, ?_⟩
    cases hx : x.s
    · rfl
    · have := hs hx; omega
theorem small {n : Int} (h0 : 0 ≤ n) (h1 : n ≤ 1073741824) : I64 n := by unfold I64; omega
theorem cl0_there {x : Cl} (hr : rightCl x = true) (hl : x.a.length = 8) (hd : zs.drop i = encX x ++ ys) : dCl0 zs i = .ok (x, i + (encX x).length) := by
  have o := rightCl_says hr
  unfold encX at hd ⊢
  simp only [List.append_assoc] at hd
  have t1 := mnum_there x.st hd (by have := o.st; omega) (by have := o.st; omega)
  have d1 := drop_next hd
  have t2 := bal_there d1 (small o.p.1.1 o.p.1.2) (small o.p.2.1 (by have := o.p.2.2; omega))
  have d2 := drop_next d1
  unfold dCl0
  rw [t1]
  simp only [bnd]
  rw [t2]
  dsimp only
  by_cases h0 : x.st = 0
  · rw [if_pos h0]
    obtain ⟨z1, z2, z3, z4⟩ := o.z h0
    unfold encT
    rw [if_pos h0]
    obtain ⟨st, p, v, c, a, s⟩ := x
    dsimp only at z1 z2 z3 z4
    subst z1 z2 z3 z4
    simp only [List.length_append, List.length_nil, Nat.add_zero, Nat.add_assoc]
  · rw [if_neg h0]
    unfold encT at d2 ⊢
    rw [if_neg h0] at d2 ⊢
    simp only [List.append_assoc] at d2
    have t3 := bal_there d2 (small o.v.1.1 o.v.1.2) (small o.v.2.1 (by have := o.v.2.2; omega))
    have d3 := drop_next d2
    have t4 := cm_there o.c d3
    have d4 := drop_next d3
    have t5 := at_there d4 o.a hl
    have d5 := drop_next d4
    have t6 := mflg_there x.s d5
    rw [t3]
    dsimp only
    rw [t4]
    dsimp only
    rw [t5]
    dsimp only
    rw [t6]
    simp only [List.length_append, Nat.add_assoc]
theorem cl_there {x : Cl} (hr : rightCl x = true) (hl : x.a.length = 8) (hd : zs.drop i = encX x ++ ys) : dCl zs i = .ok (x, i + (encX x).length) := dChk_ok (cl0_there hr hl hd) hr
/-- The lists are as long as they are. -/
structure LtWf (m : Lt) : Prop where
  a : m.a.length = 8
  x : m.x.a.length = 8
  d : m.d.length = 7
structure LtOk (m : Lt) : Prop where
  k : 1 ≤ m.k ∧ m.k ≤ 11
  f : 0 ≤ m.f ∧ m.f < 7
  t : 0 ≤ m.t ∧ m.t < 7
  i : nmI m.k = true → ((0 ≤ m.i.1 ∧ m.i.1 < 7) ∧ 1 ≤ m.i.2 ∧ m.i.2 ≤ 1073741824) ∧ (0 ≤ m.b.1 ∧ m.b.1 ≤ 1073741824) ∧ 0 ≤ m.b.2 ∧ m.b.2 < 7
  e : m = bareL m
  c : rightC m.c = true
  a : rightAl m.a = true
  x : rightCl m.x = true
  d : rightD m.d = true
  z : m.z.size ≤ 16384
theorem rightLt_says {m : Lt} (h : rightLt m = true) : LtOk m := by
  unfold rightLt at h
  simp only [Bool.and_eq_true, Bool.or_eq_true, Bool.not_eq_true', decide_eq_true_eq, beq_eq_false_iff_ne, sameLt_iff] at h
  obtain ⟨h1, h2, h3, _, h5, h6, h7, h8, h9, h10, h11⟩ := h
  unfold repB at h2 h3
  simp only [Bool.and_eq_true, decide_eq_true_eq] at h2 h3
  refine ⟨h1, h2, h3, fun e => ?_, h6, h7, h8, h9, h10, h11⟩
  rcases h5 with h5 | h5
  · rw [e] at h5; cases h5
  · exact ⟨rightI_says h5.1, rightB_says h5.2⟩
theorem opt_there {α : Type} {b : Bool} {z a : α} {x : Rdm α} {e : List Int} (hx : b = true → zs.drop i = e ++ ys → x = .ok (a, i + e.length)) (hz : b = false → a = z) (hd : zs.drop i = (if b then e else []) ++ ys) :
    dOpt b z x i = .ok (a, i + (if b then e else []).length) := by
  unfold dOpt
  cases b
  · rw [hz rfl]; rfl
  · exact hx rfl hd
theorem nmB_I {k : Int} (h : nmB k = true) : nmI k = true := by
  unfold nmB at h
  unfold nmI
  rw [Bool.and_eq_true] at h
  exact h.1
theorem kind_there {k f t : Int} (hk : 1 ≤ k ∧ k ≤ 11) (hf : 0 ≤ f ∧ f < 7) (ht : 0 ≤ t ∧ t < 7) (hd : zs.drop i = num7 k ++ (num7 f ++ (num7 t ++ ys))) :
    dKind zs i = .ok ((k, f, t), i + (num7 k ++ (num7 f ++ num7 t)).length) := by
  have t1 := mnum_there k hd (by omega) (by omega)
  have d1 := drop_next hd
  have t2 := mnum_there f d1 (by omega) (by omega)
  have d2 := drop_next d1
  have t3 := mnum_there t d2 (by omega) (by omega)
  unfold dKind
  rw [t1]
  simp only [bnd]
  rw [t2]
  dsimp only
  rw [t3]
  dsimp only
  rw [if_pos hk]
  simp only [List.length_append, Nat.add_assoc]
theorem lt0_there {m : Lt} (hr : rightLt m = true) (hw : LtWf m) (hd : zs.drop i = encM m ++ ys) : dLt0 zs i = .ok (m, i + (encM m).length) := by
  have o := rightLt_says hr
  have hb := o.e
  unfold encM encR at hd ⊢
  simp only [List.append_assoc] at hd
  have t0 := kind_there o.k o.f o.t hd
  have d3 := drop_next (drop_next (drop_next hd))
  rw [Nat.add_assoc, Nat.add_assoc, ← List.length_append, ← List.length_append] at d3
  have t1 := opt_there (z := (0, 0)) (a := m.i) (x := dBal zs (i + (num7 m.k ++ (num7 m.f ++ num7 m.t)).length)) (fun e hd => by
    have := o.i e
    exact bal_there hd (small this.1.1.1 (by omega)) (small (by omega) this.1.2.2)) (fun e => by rw [hb]; show (if nmI m.k then m.i else (0, 0)) = _; rw [e]; rfl) d3
  have d4 := drop_next d3
  have t2 := opt_there (z := (0, 0)) (a := m.b) (x := dBal zs _) (fun e hd => by
    have := o.i (nmB_I e)
    exact bal_there hd (small this.2.1.1 this.2.1.2) (small this.2.2.1 (by omega))) (fun e => by rw [hb]; show (if nmB m.k then m.b else (0, 0)) = _; rw [e]; rfl) d4
  have d5 := drop_next d4
  have t3 := opt_there (z := zeroC) (a := m.c) (x := dCm zs _) (fun _ hd => cm_there o.c hd) (fun e => by rw [hb]; show (if nmC m.k then m.c else zeroC) = _; rw [e]; rfl) d5
  have d6 := drop_next d5
  have t4 := opt_there (z := zero8) (a := m.a) (x := dAt zs _) (fun _ hd => at_there hd o.a hw.a) (fun e => by rw [hb]; show (if nmA m.k then m.a else zero8) = _; rw [e]; rfl) d6
  have d7 := drop_next d6
  have t5 := opt_there (z := zeroCl) (a := m.x) (x := dCl zs _) (fun _ hd => cl_there o.x hw.x hd) (fun e => by rw [hb]; show (if nmX m.k then m.x else zeroCl) = _; rw [e]; rfl) d7
  have d8 := drop_next d7
  have t6 := opt_there (z := zero7) (a := m.d) (x := dNums zs 7 _) (fun _ hd => by
    have t := nums_there m.d hd (fun n hn => by have := rightD_says o.d hw.d n hn; exact small this.1 this.2)
    rw [hw.d] at t
    exact t) (fun e => by rw [hb]; show (if nmD m.k then m.d else zero7) = _; rw [e]; rfl) d8
  have d9 := drop_next d8
  have t7 := opt_there (ys := ys) (z := noT) (a := m.z) (x := dTxt zs 16384 _) (fun _ hd => mtxt_there m.z 16384 hd (by have := o.z; omega) (by omega)) (fun e => by rw [hb]; show (if nmZ m.k then m.z else noT) = _; rw [e]; rfl) d9
  unfold dLt0
  rw [t0]
  simp only [bnd]
  rw [t1]
  dsimp only
  rw [t2]
  dsimp only
  rw [t3]
  dsimp only
  rw [t4]
  dsimp only
  rw [t5]
  dsimp only
  rw [t6]
  dsimp only
  rw [t7]
  simp only [List.length_append, Nat.add_assoc]
/-- P15.6: Get of Put is the letter. -/
theorem letter_there {m : Lt} (hr : rightLt m = true) (hw : LtWf m) : decLt (encLt m) = (m, 0) := by
  have e : encLt m = encM m := by unfold encLt; rw [if_pos hr]
  rw [e]
  have t := lt0_there (zs := encM m) (ys := []) (i := 0) hr hw (by rw [List.append_nil]; rfl)
  unfold decLt
  rw [t]
  dsimp only
  rw [Nat.zero_add, if_neg (Nat.lt_irrefl _), if_pos hr]
end
end Go.Proofs.Ytjkdccokiaejhaa
/- '==' of ballots, attributes, cells and letters, field by field, at any depth. No condition. -/
namespace Go.Proofs.Ytjkdccokiaejhaa
set_option maxRecDepth 100000
open Go.RowKit
section
variable {P : Program} {w : World} {d : Nat} {xs ys : Array Value} {f : Field} {fs : List Field} {a b : Value} {p r : Bool}
theorem fields_step (hn : f.name ≠ "_") (ha : (part f.type xs f.offset).run P w = .ok a w) (hb : (part f.type ys f.offset).run P w = .ok b w) (he : (Op.equalIn d f.type a b).run P w = .ok p w) (h : (Op.eqFields d xs ys fs).run P w = .ok r w) :
    (Op.eqFields d xs ys (f :: fs)).run P w = .ok (p && r) w := by
  simp only [Op.eqFields, hn, ne_eq, not_false_eq_true, if_true, Sem.run_bind, ha, hb, he, Result.andThen_ok]
  cases p
  · simp
  · simpa using h
theorem fields_last (hn : f.name ≠ "_") (ha : (part f.type xs f.offset).run P w = .ok a w) (hb : (part f.type ys f.offset).run P w = .ok b w) (he : (Op.equalIn d f.type a b).run P w = .ok p w) :
    (Op.eqFields d xs ys [f]).run P w = .ok p w := by
  have := fields_step (fs := []) (r := true) hn ha hb he (by simp [Op.eqFields])
  rwa [Bool.and_true] at this
end
theorem eqd_int (d : Nat) (a b : Int) (w : World) : (Op.equalIn (d + 1) 3 (.int .i64 a) (.int .i64 b)).run Try.prog w = .ok (a == b) w := run_equalIn_int (P := Try.prog) w d 3 .i64 .i64 a b Try.underlying3
theorem eqd_text (d : Nat) (a b : ByteArray) (w : World) : (Op.equalIn (d + 1) 9 (.string a) (.string b)).run Try.prog w = .ok (eqB a b) w := run_equalIn_string (P := Try.prog) w d 9 a b Try.underlying9
theorem eqd_bool (d : Nat) (a b : Bool) (w : World) : (Op.equalIn (d + 1) 4 (.bool a) (.bool b)).run Try.prog w = .ok (a == b) w := run_equalIn_bool' (P := Try.prog) w d 4 a b Try.underlying4
set_option maxHeartbeats 4000000 in
theorem eqd_bal (d : Nat) (x1 x2 y1 y2 : Int) (w : World) :
    (Op.equalIn (d + 2) 30 (.agg #[.int .i64 x1, .int .i64 x2]) (.agg #[.int .i64 y1, .int .i64 y2])).run Try.prog w = .ok (x1 == y1 && x2 == y2) w := by
  have hS : Try.prog.underlying 30 = some (.struct (Try.prog.fieldsOf 30)) := by kernel_rfl
  have hp : Try.prog.stoodInHeld 30 = false := by kernel_rfl
  rw [show d + 2 = (d + 1) + 1 from rfl, run_equalIn_agg w (d + 1) 30 _ _ hS hp]
  simp only [Program.fieldsOf, Try.underlying30]
  refine fields_step (a := .int .i64 x1) (b := .int .i64 y1) (by decide) (by kernel_rfl) (by kernel_rfl) (eqd_int d x1 y1 w) ?_
  exact fields_last (a := .int .i64 x2) (b := .int .i64 y2) (by decide) (by kernel_rfl) (by kernel_rfl) (eqd_int d x2 y2 w)
set_option maxHeartbeats 4000000 in
theorem eqd_inst (d : Nat) (x1 x2 y1 y2 : Int) (w : World) :
    (Op.equalIn (d + 2) 40 (.agg #[.int .i64 x1, .int .i64 x2]) (.agg #[.int .i64 y1, .int .i64 y2])).run Try.prog w = .ok (x1 == y1 && x2 == y2) w := by
  have hS : Try.prog.underlying 40 = some (.struct (Try.prog.fieldsOf 40)) := by kernel_rfl
  have hp : Try.prog.stoodInHeld 40 = false := by kernel_rfl
  rw [show d + 2 = (d + 1) + 1 from rfl, run_equalIn_agg w (d + 1) 40 _ _ hS hp]
  simp only [Program.fieldsOf, Try.underlying40]
  refine fields_step (a := .int .i64 x1) (b := .int .i64 y1) (by decide) (by kernel_rfl) (by kernel_rfl) (eqd_int d x1 y1 w) ?_
  exact fields_last (a := .int .i64 x2) (b := .int .i64 y2) (by decide) (by kernel_rfl) (by kernel_rfl) (eqd_int d x2 y2 w)
set_option maxHeartbeats 4000000 in
theorem eqd_cmd (d : Nat) (k c q : Int) (ka kb ko kv : ByteArray) (k' c' q' : Int) (ka' kb' ko' kv' : ByteArray) (w : World) :
    (Op.equalIn (d + 2) 32 (.agg #[.int .i64 k, .int .i64 c, .int .i64 q, .string ka, .string kb, .string ko, .string kv]) (.agg #[.int .i64 k', .int .i64 c', .int .i64 q', .string ka', .string kb', .string ko', .string kv'])).run Try.prog w = .ok (k == k' && (c == c' && (q == q' && (eqB ka ka' && (eqB kb kb' && (eqB ko ko' && eqB kv kv')))))) w := by
  have hS : Try.prog.underlying 32 = some (.struct (Try.prog.fieldsOf 32)) := by kernel_rfl
  have hp : Try.prog.stoodInHeld 32 = false := by kernel_rfl
  rw [show d + 2 = (d + 1) + 1 from rfl, run_equalIn_agg w (d + 1) 32 _ _ hS hp]
  simp only [Program.fieldsOf, Try.underlying32]
  refine fields_step (a := .int .i64 k) (b := .int .i64 k') (by decide) (by kernel_rfl) (by kernel_rfl) (eqd_int d k k' w) ?_
  refine fields_step (a := .int .i64 c) (b := .int .i64 c') (by decide) (by kernel_rfl) (by kernel_rfl) (eqd_int d c c' w) ?_
  refine fields_step (a := .int .i64 q) (b := .int .i64 q') (by decide) (by kernel_rfl) (by kernel_rfl) (eqd_int d q q' w) ?_
  refine fields_step (a := .string ka) (b := .string ka') (by decide) (by kernel_rfl) (by kernel_rfl) (eqd_text d ka ka' w) ?_
  refine fields_step (a := .string kb) (b := .string kb') (by decide) (by kernel_rfl) (by kernel_rfl) (eqd_text d kb kb' w) ?_
  refine fields_step (a := .string ko) (b := .string ko') (by decide) (by kernel_rfl) (by kernel_rfl) (eqd_text d ko ko' w) ?_
  exact fields_last (a := .string kv) (b := .string kv') (by decide) (by kernel_rfl) (by kernel_rfl) (eqd_text d kv kv' w)
set_option maxHeartbeats 4000000 in
theorem eqd_attr0 (d : Nat) (a0 a1 a2 a3 a4 a5 a6 a7 : Int) (a0' a1' a2' a3' a4' a5' a6' a7' : Int) (w : World) :
    (Op.equalIn (d + 3) 26 (.agg #[.int .i64 a0, .int .i64 a1, .int .i64 a2, .int .i64 a3, .int .i64 a4, .int .i64 a5, .int .i64 a6, .int .i64 a7]) (.agg #[.int .i64 a0', .int .i64 a1', .int .i64 a2', .int .i64 a3', .int .i64 a4', .int .i64 a5', .int .i64 a6', .int .i64 a7'])).run Try.prog w = .ok (a0 == a0' && decide ([a1, a2, a3, a4, a5, a6, a7] = [a1', a2', a3', a4', a5', a6', a7'])) w := by
  have hS : Try.prog.underlying 26 = some (.struct (Try.prog.fieldsOf 26)) := by kernel_rfl
  have hp : Try.prog.stoodInHeld 26 = false := by kernel_rfl
  rw [show d + 3 = (d + 2) + 1 from rfl, run_equalIn_agg w (d + 2) 26 _ _ hS hp]
  simp only [Program.fieldsOf, Try.underlying26]
  refine fields_step (a := .int .i64 a0) (b := .int .i64 a0') (by decide) (by kernel_rfl) (by kernel_rfl) (eqd_int (d + 1) a0 a0' w) ?_
  exact fields_last (a := .agg #[.int .i64 a1, .int .i64 a2, .int .i64 a3, .int .i64 a4, .int .i64 a5, .int .i64 a6, .int .i64 a7]) (b := .agg #[.int .i64 a1', .int .i64 a2', .int .i64 a3', .int .i64 a4', .int .i64 a5', .int .i64 a6', .int .i64 a7']) (by decide) (by kernel_rfl) (by kernel_rfl) (equal_deps d a1 a2 a3 a4 a5 a6 a7 a1' a2' a3' a4' a5' a6' a7' w)
theorem eqd_attr (d : Nat) (a0 a1 a2 a3 a4 a5 a6 a7 : Int) (a0' a1' a2' a3' a4' a5' a6' a7' : Int) (w : World) : (Op.equalIn (d + 3) 26 (.agg #[.int .i64 a0, .int .i64 a1, .int .i64 a2, .int .i64 a3, .int .i64 a4, .int .i64 a5, .int .i64 a6, .int .i64 a7]) (.agg #[.int .i64 a0', .int .i64 a1', .int .i64 a2', .int .i64 a3', .int .i64 a4', .int .i64 a5', .int .i64 a6', .int .i64 a7'])).run Try.prog w = .ok (decide ([a0, a1, a2, a3, a4, a5, a6, a7] = [a0', a1', a2', a3', a4', a5', a6', a7'])) w := by
  rw [eqd_attr0]
  congr 1
  rw [Bool.eq_iff_iff]
  simp
set_option maxHeartbeats 4000000 in
theorem eqd_cell (d : Nat) (st p1 p2 v1 v2 : Int) (k c q : Int) (ka kb ko kv : ByteArray) (a0 a1 a2 a3 a4 a5 a6 a7 : Int) (s : Bool) (st' p1' p2' v1' v2' : Int) (k' c' q' : Int) (ka' kb' ko' kv' : ByteArray) (a0' a1' a2' a3' a4' a5' a6' a7' : Int) (s' : Bool) (w : World) :
    (Op.equalIn (d + 4) 34 (.agg #[.int .i64 st, .int .i64 p1, .int .i64 p2, .int .i64 v1, .int .i64 v2, .int .i64 k, .int .i64 c, .int .i64 q, .string ka, .string kb, .string ko, .string kv, .int .i64 a0, .int .i64 a1, .int .i64 a2, .int .i64 a3, .int .i64 a4, .int .i64 a5, .int .i64 a6, .int .i64 a7, .bool s]) (.agg #[.int .i64 st', .int .i64 p1', .int .i64 p2', .int .i64 v1', .int .i64 v2', .int .i64 k', .int .i64 c', .int .i64 q', .string ka', .string kb', .string ko', .string kv', .int .i64 a0', .int .i64 a1', .int .i64 a2', .int .i64 a3', .int .i64 a4', .int .i64 a5', .int .i64 a6', .int .i64 a7', .bool s'])).run Try.prog w = .ok (sameCl ⟨st, (p1, p2), (v1, v2), ⟨k, c, q, ka, kb, ko, kv⟩, [a0, a1, a2, a3, a4, a5, a6, a7], s⟩ ⟨st', (p1', p2'), (v1', v2'), ⟨k', c', q', ka', kb', ko', kv'⟩, [a0', a1', a2', a3', a4', a5', a6', a7'], s'⟩) w := by
  have hS : Try.prog.underlying 34 = some (.struct (Try.prog.fieldsOf 34)) := by kernel_rfl
  have hp : Try.prog.stoodInHeld 34 = false := by kernel_rfl
  rw [show d + 4 = (d + 3) + 1 from rfl, run_equalIn_agg w (d + 3) 34 _ _ hS hp]
  simp only [Program.fieldsOf, Try.underlying34]
  refine fields_step (a := .int .i64 st) (b := .int .i64 st') (by decide) (by kernel_rfl) (by kernel_rfl) (eqd_int (d + 2) st st' w) ?_
  refine fields_step (a := .agg #[.int .i64 p1, .int .i64 p2]) (b := .agg #[.int .i64 p1', .int .i64 p2']) (by decide) (by kernel_rfl) (by kernel_rfl) (eqd_bal (d + 1) p1 p2 p1' p2' w) ?_
  refine fields_step (a := .agg #[.int .i64 v1, .int .i64 v2]) (b := .agg #[.int .i64 v1', .int .i64 v2']) (by decide) (by kernel_rfl) (by kernel_rfl) (eqd_bal (d + 1) v1 v2 v1' v2' w) ?_
  refine fields_step (a := .agg #[.int .i64 k, .int .i64 c, .int .i64 q, .string ka, .string kb, .string ko, .string kv]) (b := .agg #[.int .i64 k', .int .i64 c', .int .i64 q', .string ka', .string kb', .string ko', .string kv']) (by decide) (by kernel_rfl) (by kernel_rfl) (eqd_cmd (d + 1) k c q ka kb ko kv k' c' q' ka' kb' ko' kv' w) ?_
  refine fields_step (a := .agg #[.int .i64 a0, .int .i64 a1, .int .i64 a2, .int .i64 a3, .int .i64 a4, .int .i64 a5, .int .i64 a6, .int .i64 a7]) (b := .agg #[.int .i64 a0', .int .i64 a1', .int .i64 a2', .int .i64 a3', .int .i64 a4', .int .i64 a5', .int .i64 a6', .int .i64 a7']) (by decide) (by kernel_rfl) (by kernel_rfl) (eqd_attr d a0 a1 a2 a3 a4 a5 a6 a7 a0' a1' a2' a3' a4' a5' a6' a7' w) ?_
  exact fields_last (a := .bool s) (b := .bool s') (by decide) (by kernel_rfl) (by kernel_rfl) (eqd_bool (d + 2) s s' w)
/-- A letter's fifty-one cells. -/
def Lt.l (m : Lt) : List Value := .int .i64 m.k :: .int .i64 m.f :: .int .i64 m.t :: .int .i64 m.i.1 :: .int .i64 m.i.2 :: .int .i64 m.b.1 :: .int .i64 m.b.2 :: (m.c.l ++ (cellsR m.a ++ (m.x.l ++ (cellsR m.d ++ [.string m.z]))))
def ltC (m : Lt) : Array Value := m.l.toArray
theorem len_seven {d : List Int} (h : d.length = 7) : ∃ d0 d1 d2 d3 d4 d5 d6, d = [d0, d1, d2, d3, d4, d5, d6] := by
  match d, h with
  | [d0, d1, d2, d3, d4, d5, d6], _ => exact ⟨d0, d1, d2, d3, d4, d5, d6, rfl⟩
end Go.Proofs.Ytjkdccokiaejhaa
/- A letter of fifty-one cells in a block of its own: what is loaded of it, what is stored into it. No condition: nothing here speaks of a function. -/
namespace Go.Proofs.Ytjkdccokiaejhaa
set_option maxRecDepth 100000
open Go.RowKit
/-! ### A block into which cells are stored -/
def puts (cs : Array Value) : Nat → List Value → Array Value
  | _, [] => cs
  | o, v :: r => puts (cs.setIfInBounds o v) (o + 1) r
theorem Row.puts {g : Nat} {t : TypeId} : ∀ (vs : List Value) (o : Nat) {w : World} {cs : Array Value}, Row w g t cs → Row (w.setCells g o vs) g t (Go.Proofs.Ytjkdccokiaejhaa.puts cs o vs)
  | [], _, _, _, h => h
  | v :: r, o, _, _, h => Row.puts r (o + 1) (h.put o v)
theorem set_mid (A B : List Value) (y v : Value) : (A ++ y :: B).set A.length v = A ++ v :: B := by
  induction A with
  | nil => rfl
  | cons a A ih => simp [ih]
theorem puts_mid : ∀ (vs ys A B : List Value), vs.length = ys.length → puts (A ++ (ys ++ B)).toArray A.length vs = (A ++ (vs ++ B)).toArray
  | [], ys, A, B, h => by
    have : ys = [] := List.length_eq_zero_iff.1 h.symm
    subst this; rfl
  | v :: vs, [], _, _, h => by cases h
  | v :: vs, y :: ys, A, B, h => by
    unfold puts
    have e : (A ++ (y :: ys ++ B)).toArray.setIfInBounds A.length v = ((A ++ [v]) ++ (ys ++ B)).toArray := by
      rw [List.setIfInBounds_toArray, List.cons_append, set_mid]
      simp
    rw [e]
    have := puts_mid vs ys (A ++ [v]) B (by simpa using h)
    rw [List.length_append] at this
    rw [show A.length + 1 = A.length + [v].length from rfl, this]
    simp
theorem grown_set1 (w : World) (b i : Nat) (v : Value) : w.grownBy (w.setCell ⟨b, i, none⟩ v) (some b) :=
  ⟨rfl, rfl, rfl, by simp [World.setCell], fun k _ hk => Below.heap_setCell _ _ _ _ (fun e => hk (by rw [e]))⟩
theorem grown_setCells (b : Nat) : ∀ (vs : List Value) (o : Nat) (w : World), w.grownBy (w.setCells b o vs) (some b)
  | [], _, w => grown_refl w (some b)
  | v :: r, o, w => grown_trans (grown_set1 w b o v) (grown_setCells b r (o + 1) _)
/-! ### Letters -/
theorem ce_under : Try.prog.underlying 34 = some (.struct (Try.prog.fieldsOf 34)) := by kernel_rfl
theorem ce_info : (Try.prog.info? 34).map (·.size) = some 21 := by kernel_rfl
theorem in_under : Try.prog.underlying 40 = some (.struct (Try.prog.fieldsOf 40)) := by kernel_rfl
theorem in_info : (Try.prog.info? 40).map (·.size) = some 2 := by kernel_rfl
theorem de_under : Try.prog.underlying 24 = some (.array 7 3) := by kernel_rfl
theorem de_info : (Try.prog.info? 24).map (·.size) = some 7 := by kernel_rfl
theorem Lt.len {m : Lt} (h : LtWf m) : m.l.length = 51 := by
  have h2 := Cl.len h.x
  have h3 : m.c.l.length = 7 := rfl
  unfold Lt.l
  simp only [List.length_cons, List.length_append, List.length_nil, length_cellsR, h.a, h.d, h2, h3]
structure LAt (w : World) (b : Nat) (t : TypeId) (m : Lt) : Prop where
  r : Row w b t (ltC m)
  wf : LtWf m
section
variable {w w' : World} {b B : Nat} {t : TypeId} {m : Lt}
theorem LAt.kept (h : LAt w b t m) (hb : Below w.heap.size w w') : LAt w' b t m := ⟨h.r.below hb h.r.lt, h.wf⟩
theorem LAt.other {c : Nat} (h : LAt w b t m) (hg : w.grownBy w' (some c)) (hne : b ≠ c) : LAt w' b t m := ⟨h.r.grown hg (by simpa using hne), h.wf⟩
theorem LAt.new (h : LtWf m) (w : World) (t : TypeId) : LAt (w.alloc (.cells (ltC m) t)) w.heap.size t m := ⟨Row.new w t _, h⟩
theorem LAt.k1 (h : LAt w b t m) : w.cell? ⟨b, 0, none⟩ = some (.int .i64 m.k) := h.r.cell 0
theorem LAt.f1 (h : LAt w b t m) : w.cell? ⟨b, 1, none⟩ = some (.int .i64 m.f) := h.r.cell 1
theorem LAt.t1 (h : LAt w b t m) : w.cell? ⟨b, 2, none⟩ = some (.int .i64 m.t) := h.r.cell 2
def Lt.tl (m : Lt) : List Value := cellsR m.a ++ (m.x.l ++ (cellsR m.d ++ [.string m.z]))
theorem LAt.all (h : LAt w b t m) : w.rangeAt b 0 m.l := h.r.mid (A := []) (ys := m.l) (B := []) (by unfold ltC; simp) rfl
theorem LAt.i (h : LAt w b t m) : w.rangeAt b 3 [.int .i64 m.i.1, .int .i64 m.i.2] :=
  h.r.mid (A := [.int .i64 m.k, .int .i64 m.f, .int .i64 m.t]) (B := .int .i64 m.b.1 :: .int .i64 m.b.2 :: (m.c.l ++ m.tl)) rfl rfl
theorem LAt.b1 (h : LAt w b t m) : w.rangeAt b 5 [.int .i64 m.b.1, .int .i64 m.b.2] :=
  h.r.mid (A := [.int .i64 m.k, .int .i64 m.f, .int .i64 m.t, .int .i64 m.i.1, .int .i64 m.i.2]) (B := m.c.l ++ m.tl) rfl rfl
def Lt.hd (m : Lt) : List Value := [.int .i64 m.k, .int .i64 m.f, .int .i64 m.t, .int .i64 m.i.1, .int .i64 m.i.2, .int .i64 m.b.1, .int .i64 m.b.2]
theorem LAt.c (h : LAt w b t m) : w.rangeAt b 7 m.c.l := h.r.mid (A := m.hd) (B := m.tl) rfl rfl
theorem LAt.a (h : LAt w b t m) : w.rangeAt b 14 (cellsR m.a) := h.r.mid (A := m.hd ++ m.c.l) (B := m.x.l ++ (cellsR m.d ++ [.string m.z])) rfl rfl
theorem LAt.x (h : LAt w b t m) : w.rangeAt b 22 m.x.l := h.r.mid (A := m.hd ++ (m.c.l ++ cellsR m.a)) (B := cellsR m.d ++ [.string m.z]) (by unfold ltC Lt.l Lt.hd; simp) (by
  have h3 : m.c.l.length = 7 := rfl
  have h4 : m.hd.length = 7 := rfl
  simp only [List.length_append, length_cellsR, h.wf.a, h3, h4])
theorem LAt.d (h : LAt w b t m) : w.rangeAt b 43 (cellsR m.d) := h.r.mid (A := m.hd ++ (m.c.l ++ (cellsR m.a ++ m.x.l))) (B := [.string m.z]) (by unfold ltC Lt.l Lt.hd; simp) (by
  have h3 : m.c.l.length = 7 := rfl
  have h4 : m.hd.length = 7 := rfl
  have h5 := Cl.len h.wf.x
  simp only [List.length_append, length_cellsR, h.wf.a, h3, h4, h5])
theorem LAt.z (h : LAt w b t m) : w.cell? ⟨b, 50, none⟩ = some (.string m.z) := by
  have := h.r.mid (A := m.hd ++ (m.c.l ++ (cellsR m.a ++ (m.x.l ++ cellsR m.d)))) (ys := [.string m.z]) (B := []) (o := 50) (by unfold ltC Lt.l Lt.hd; simp) (by
    have h3 : m.c.l.length = 7 := rfl
    have h4 : m.hd.length = 7 := rfl
    have h5 := Cl.len h.wf.x
    simp only [List.length_append, length_cellsR, h.wf.a, h.wf.d, h3, h4, h5])
  exact this 0 _ rfl
theorem LAt.there (h : LAt w b t m) (o n : Nat) (hn : o + n ≤ 51) : w.there b o n := fun j hj => by
  refine ⟨?_, h.r.free _⟩
  have hl : (ltC m).size = 51 := by unfold ltC; rw [List.size_toArray]; exact Lt.len h.wf
  rw [h.r.cell, Array.getElem?_eq_getElem (by omega)]
  rfl
/-- A part of it is stored. -/
theorem LAt.put {m' : Lt} {A ys vs B : List Value} {o : Nat} (h : LAt w b t m) (e1 : m.l = A ++ (ys ++ B)) (e2 : m'.l = A ++ (vs ++ B)) (ho : A.length = o) (hl : vs.length = ys.length) (hw : LtWf m') : LAt (w.setCells b o vs) b t m' := by
  refine ⟨?_, hw⟩
  have hr := Row.puts vs o h.r
  unfold ltC at hr ⊢
  rw [e1, ← ho, puts_mid vs ys A B hl] at hr
  rw [e2, ← ho]
  exact hr
end
end Go.Proofs.Ytjkdccokiaejhaa
/- The walk's laws for letters: loads of parts and of the whole, stores of parts, the build of a bare one. No condition: nothing here speaks of a function. -/
namespace Go.Proofs.Ytjkdccokiaejhaa
set_option maxRecDepth 100000
open Go.RowKit
section
variable {ops : Array Oper} {rest : List Oper} {d : Option Tmp} {ty : TypeId} {ps : String} {af : Array Edge} {gd : Option (Nat × Bool)} {x u : Operand} {a : Act} {w : World} {Q : Exit → Act → World → Prop} {b o : Nat} {t : TypeId} {m : Lt}
theorem wpList_load_in {p q : Int} (hw : Region.wanted ({ dst := d, op := .load 40 x, type := ty, pos := ps, after := af, guard := gd } : Oper) (yielded ops a.tmps) = true) (hx : a.eval x = .pointer (some ⟨b, o, none⟩)) (R : w.rangeAt b o [.int .i64 p, .int .i64 q]) (h : wpList Try.prog ops Q rest (a.put d (.agg #[.int .i64 p, .int .i64 q])) w) :
    wpList Try.prog ops Q ({ dst := d, op := .load 40 x, type := ty, pos := ps, after := af, guard := gd } :: rest) a w :=
  wpList_load_g hw hx R in_under rfl in_info h
theorem wpList_load_ce {y : Cl} (hl : y.a.length = 8) (hw : Region.wanted ({ dst := d, op := .load 34 x, type := ty, pos := ps, after := af, guard := gd } : Oper) (yielded ops a.tmps) = true) (hx : a.eval x = .pointer (some ⟨b, o, none⟩)) (R : w.rangeAt b o y.l) (h : wpList Try.prog ops Q rest (a.put d (.agg (clC y))) w) :
    wpList Try.prog ops Q ({ dst := d, op := .load 34 x, type := ty, pos := ps, after := af, guard := gd } :: rest) a w :=
  wpList_load_g hw hx R ce_under rfl (by rw [Cl.len hl]; exact ce_info) h
theorem wpList_load_de {y : List Int} (hl : y.length = 7) (hw : Region.wanted ({ dst := d, op := .load 24 x, type := ty, pos := ps, after := af, guard := gd } : Oper) (yielded ops a.tmps) = true) (hx : a.eval x = .pointer (some ⟨b, o, none⟩)) (R : w.rangeAt b o (cellsR y)) (h : wpList Try.prog ops Q rest (a.put d (.agg (cA y))) w) :
    wpList Try.prog ops Q ({ dst := d, op := .load 24 x, type := ty, pos := ps, after := af, guard := gd } :: rest) a w :=
  wpList_load_g hw hx R de_under rfl (by rw [length_cellsR, hl]; exact de_info) h
/-- A part is stored. -/
theorem wp_store_l {op : Oper} {K : Act → World → Prop} {T : TypeId} {m' : Lt} {A ys vs B : List Value} (ho' : op.op = .store T x u) (hx : a.eval x = .pointer (some ⟨b, o, none⟩)) (hy : a.eval u = .agg vs.toArray) (L : LAt w b t m) (e1 : m.l = A ++ (ys ++ B)) (e2 : m'.l = A ++ (vs ++ B)) (ho : A.length = o) (hl : vs.length = ys.length)
    (hw : LtWf m') (hi : (Try.prog.info? T).map (·.size) = some vs.length) (h1 : ∀ v, v ∈ vs → v.oneCell' = true) (h : ∀ w', LAt w' b t m' → w.grownBy w' (some b) → K (a.put op.dst undef) w') : op.wp Try.prog a w K Q := by
  have h51 : o + vs.length ≤ 51 := by
    have := Lt.len L.wf
    rw [e1, List.length_append, List.length_append] at this
    omega
  refine wp_store_mid T x u ho' b o vs.toArray hx hy (L.there o _ (by rw [List.size_toArray]; exact h51)) (by rw [List.size_toArray]; exact hi) (all_oneCell_toArray h1) ?_
  exact h _ (L.put e1 e2 ho hl hw) (grown_setCells b vs o w)
theorem one_ints {l : List Int} : ∀ v, v ∈ cellsR l → v.oneCell' = true := fun v hv => by
  unfold cellsR at hv
  obtain ⟨n, _, rfl⟩ := List.mem_map.1 hv
  rfl
theorem one_cm (c : Cm) : ∀ v, v ∈ c.l → v.oneCell' = true := fun v hv => by
  unfold Cm.l at hv
  simp at hv
  rcases hv with rfl | rfl | rfl | rfl | rfl | rfl | rfl <;> rfl
theorem one_cl (y : Cl) : ∀ v, v ∈ y.l → v.oneCell' = true := fun v hv => by
  unfold Cl.l at hv
  simp only [List.mem_cons, List.mem_append, List.not_mem_nil, or_false] at hv
  rcases hv with rfl | rfl | rfl | rfl | rfl | hv | hv | rfl
  · rfl
  · rfl
  · rfl
  · rfl
  · rfl
  · exact one_cm _ v hv
  · exact one_ints v hv
  · rfl
theorem wpList_store_li {p q : Int} (hx : a.eval x = .pointer (some ⟨b, 3, none⟩)) (hy : a.eval u = .agg #[.int .i64 p, .int .i64 q]) (L : LAt w b t m) (h : ∀ w', LAt w' b t { m with i := (p, q) } → w.grownBy w' (some b) → wpList Try.prog ops Q rest (a.put d undef) w') :
    wpList Try.prog ops Q ({ dst := d, op := .store 40 x u, type := ty, pos := ps, after := af, guard := none } :: rest) a w :=
  wpList_plain rfl fun _ hK => wp_store_l (A := [.int .i64 m.k, .int .i64 m.f, .int .i64 m.t]) (ys := [.int .i64 m.i.1, .int .i64 m.i.2]) (vs := [.int .i64 p, .int .i64 q]) (B := .int .i64 m.b.1 :: .int .i64 m.b.2 :: (m.c.l ++ m.tl)) (m' := { m with i := (p, q) })
    rfl hx hy L rfl rfl rfl rfl ⟨L.wf.a, L.wf.x, L.wf.d⟩ in_info (fun v hv => by simp at hv; rcases hv with rfl | rfl <;> rfl) fun w' h1 h2 => hK _ _ (h w' h1 h2)
theorem wpList_store_lb {p q : Int} (hx : a.eval x = .pointer (some ⟨b, 5, none⟩)) (hy : a.eval u = .agg #[.int .i64 p, .int .i64 q]) (L : LAt w b t m) (h : ∀ w', LAt w' b t { m with b := (p, q) } → w.grownBy w' (some b) → wpList Try.prog ops Q rest (a.put d undef) w') :
    wpList Try.prog ops Q ({ dst := d, op := .store 30 x u, type := ty, pos := ps, after := af, guard := none } :: rest) a w :=
  wpList_plain rfl fun _ hK => wp_store_l (A := [.int .i64 m.k, .int .i64 m.f, .int .i64 m.t, .int .i64 m.i.1, .int .i64 m.i.2]) (ys := [.int .i64 m.b.1, .int .i64 m.b.2]) (vs := [.int .i64 p, .int .i64 q]) (B := m.c.l ++ m.tl) (m' := { m with b := (p, q) })
    rfl hx hy L rfl rfl rfl rfl ⟨L.wf.a, L.wf.x, L.wf.d⟩ bal_info (fun v hv => by simp at hv; rcases hv with rfl | rfl <;> rfl) fun w' h1 h2 => hK _ _ (h w' h1 h2)
theorem wp_store_lc {op : Oper} {K : Act → World → Prop} {y : Cm} (ho : op.op = .store 32 x u) (hx : a.eval x = .pointer (some ⟨b, 7, none⟩)) (hy : a.eval u = .agg #[.int .i64 y.k, .int .i64 y.c, .int .i64 y.q, .string y.key, .string y.en, .string y.old, .string y.val]) (L : LAt w b t m)
    (h : ∀ w', LAt w' b t { m with c := y } → w.grownBy w' (some b) → K (a.put op.dst undef) w') : op.wp Try.prog a w K Q :=
  wp_store_l (A := m.hd) (ys := m.c.l) (vs := y.l) (B := m.tl) (m' := { m with c := y }) ho hx hy L rfl rfl rfl rfl ⟨L.wf.a, L.wf.x, L.wf.d⟩ cm_info (one_cm y) h
theorem wp_store_la {op : Oper} {K : Act → World → Prop} {y : List Int} (hl : y.length = 8) (ho : op.op = .store 26 x u) (hx : a.eval x = .pointer (some ⟨b, 14, none⟩)) (hy : a.eval u = .agg (cA y)) (L : LAt w b t m)
    (h : ∀ w', LAt w' b t { m with a := y } → w.grownBy w' (some b) → K (a.put op.dst undef) w') : op.wp Try.prog a w K Q :=
  wp_store_l (A := m.hd ++ m.c.l) (ys := cellsR m.a) (vs := cellsR y) (B := m.x.l ++ (cellsR m.d ++ [.string m.z])) (m' := { m with a := y }) ho hx hy L rfl rfl rfl (by rw [length_cellsR, length_cellsR, hl, L.wf.a]) ⟨hl, L.wf.x, L.wf.d⟩ (by rw [length_cellsR, hl]; exact at_info) one_ints h
theorem wpList_store_la {y : List Int} (hl : y.length = 8) (hx : a.eval x = .pointer (some ⟨b, 14, none⟩)) (hy : a.eval u = .agg (cA y)) (L : LAt w b t m) (h : ∀ w', LAt w' b t { m with a := y } → w.grownBy w' (some b) → wpList Try.prog ops Q rest (a.put d undef) w') :
    wpList Try.prog ops Q ({ dst := d, op := .store 26 x u, type := ty, pos := ps, after := af, guard := none } :: rest) a w :=
  wpList_plain rfl fun _ hK => wp_store_la hl rfl hx hy L fun w' h1 h2 => hK _ _ (h w' h1 h2)
theorem wpList_store_lx {y : Cl} (hl : y.a.length = 8) (hx : a.eval x = .pointer (some ⟨b, 22, none⟩)) (hy : a.eval u = .agg (clC y)) (L : LAt w b t m) (h : ∀ w', LAt w' b t { m with x := y } → w.grownBy w' (some b) → wpList Try.prog ops Q rest (a.put d undef) w') :
    wpList Try.prog ops Q ({ dst := d, op := .store 34 x u, type := ty, pos := ps, after := af, guard := none } :: rest) a w :=
  wpList_plain rfl fun _ hK => wp_store_l (A := m.hd ++ (m.c.l ++ cellsR m.a)) (ys := m.x.l) (vs := y.l) (B := cellsR m.d ++ [.string m.z]) (m' := { m with x := y })
    rfl hx hy L (by unfold Lt.l Lt.hd; simp) (by unfold Lt.l Lt.hd; simp) (by
      have h3 : m.c.l.length = 7 := rfl
      have h4 : m.hd.length = 7 := rfl
      simp only [List.length_append, length_cellsR, L.wf.a, h3, h4]) (by rw [Cl.len hl, Cl.len L.wf.x]) ⟨L.wf.a, hl, L.wf.d⟩ (by rw [Cl.len hl]; exact ce_info) (one_cl y) fun w' h1 h2 => hK _ _ (h w' h1 h2)
theorem wpList_store_ld {y : List Int} (hl : y.length = 7) (hx : a.eval x = .pointer (some ⟨b, 43, none⟩)) (hy : a.eval u = .agg (cA y)) (L : LAt w b t m) (h : ∀ w', LAt w' b t { m with d := y } → w.grownBy w' (some b) → wpList Try.prog ops Q rest (a.put d undef) w') :
    wpList Try.prog ops Q ({ dst := d, op := .store 24 x u, type := ty, pos := ps, after := af, guard := none } :: rest) a w :=
  wpList_plain rfl fun _ hK => wp_store_l (A := m.hd ++ (m.c.l ++ (cellsR m.a ++ m.x.l))) (ys := cellsR m.d) (vs := cellsR y) (B := [.string m.z]) (m' := { m with d := y })
    rfl hx hy L (by unfold Lt.l Lt.hd; simp) (by unfold Lt.l Lt.hd; simp) (by
      have h3 : m.c.l.length = 7 := rfl
      have h4 : m.hd.length = 7 := rfl
      have h5 := Cl.len L.wf.x
      simp only [List.length_append, length_cellsR, L.wf.a, h3, h4, h5]) (by rw [length_cellsR, length_cellsR, hl, L.wf.d]) ⟨L.wf.a, L.wf.x, hl⟩ (by rw [length_cellsR, hl]; exact de_info) one_ints fun w' h1 h2 => hK _ _ (h w' h1 h2)
/-- A letter with nothing but kind, from and to, built. -/
def bare0 (k f t : Int) : Lt := ⟨k, f, t, (0, 0), (0, 0), zeroC, zero8, zeroCl, zero7, noT⟩
end
end Go.Proofs.Ytjkdccokiaejhaa
/- What the document's own spans come to. No condition. -/
namespace Go.Proofs.Ytjkdccokiaejhaa
set_option maxRecDepth 100000
open Go.RowKit
end Go.Proofs.Ytjkdccokiaejhaa
/- What the document's own Right, Keys, Writes, Clash come to. Conditions: the keys have room. -/
namespace Go.Proofs.Ytjkdccokiaejhaa
set_option maxRecDepth 100000
open Go.RowKit
/-- The document's own, in plain words. -/
def badC (x : Cm) : Bool := decide (x.k < 1) || (decide (5 < x.k) || (decide (x.c < 1) || (decide (8 < x.c) || (decide (x.q < 1) || (decide (1099511627776 < x.q) || (decide (16 < x.key.size) || (decide (16 < x.en.size) || (decide (64 < x.old.size) || decide (64 < x.val.size)))))))))
def bareC (x : Cm) : Cm :=
  if x.k = 2 then ⟨x.k, x.c, x.q, x.key, noT, noT, x.val⟩
  else if x.k = 4 then ⟨x.k, x.c, x.q, x.key, noT, x.old, x.val⟩
  else if x.k = 5 then ⟨x.k, x.c, x.q, x.key, x.en, noT, noT⟩
  else ⟨x.k, x.c, x.q, x.key, noT, noT, noT⟩
def rrightC (x : Cm) : Bool := sameC x zeroC || (!badC x && (sameC x (bareC x) && (decide (x.k = 5) || !nilB x.key)))
end Go.Proofs.Ytjkdccokiaejhaa
/- What the document's own Clash and Right come to. Conditions: the keys have room. -/
namespace Go.Proofs.Ytjkdccokiaejhaa
set_option maxRecDepth 100000
open Go.RowKit
def rclashC (x y : Cm) : Bool := (hasC x.k && hasC y.k) && (x.c == y.c || ((writesC x.k || writesC y.k) && rmeetB (loC x) (hiC x) (loC y) (hiC y)))
end Go.Proofs.Ytjkdccokiaejhaa
/- Texts stand in a line; of finitely many each has a place, so that what is said of spans is said of numbers. No condition: nothing here speaks of a program. -/
namespace Go.Proofs.Ytjkdccokiaejhaa
set_option maxRecDepth 100000
open Go.RowKit
theorem less_self : ∀ x : List UInt8, Op.bytesLess x x = false
  | [] => rfl
  | a :: x => by simp [Op.bytesLess, less_self x, UInt8.lt_irrefl]
theorem less_or : ∀ x y : List UInt8, Op.bytesLess x y = false → Op.bytesLess y x = false → x = y
  | [], [], _, _ => rfl
  | [], _ :: _, h, _ => by simp [Op.bytesLess] at h
  | _ :: _, [], _, h => by simp [Op.bytesLess] at h
  | a :: x, b :: y, h, h' => by
    simp [Op.bytesLess] at h h'
    have hab : a = b := UInt8.le_antisymm h'.1 h.1
    subst hab
    rw [less_or x y (h.2 rfl) (h'.2 rfl)]
theorem less_trans : ∀ x y z : List UInt8, Op.bytesLess x y = true → Op.bytesLess y z = true → Op.bytesLess x z = true
  | _, _, [], _, h => by cases ‹List UInt8› <;> simp [Op.bytesLess] at h
  | [], _, _ :: _, _, _ => rfl
  | _ :: _, [], _ :: _, h, _ => by simp [Op.bytesLess] at h
  | a :: x, b :: y, c :: z, h, h' => by
    simp [Op.bytesLess] at h h' ⊢
    rcases h with h | ⟨rfl, h⟩
    · rcases h' with h' | ⟨rfl, _⟩
      · exact .inl (UInt8.lt_trans h h')
      · exact .inl h
    · rcases h' with h' | ⟨rfl, h'⟩
      · exact .inl h'
      · exact .inr ⟨rfl, less_trans x y z h h'⟩
theorem less_next : ∀ x y : List UInt8, Op.bytesLess x (y ++ [0]) = !Op.bytesLess y x
  | [], [] => rfl
  | [], _ :: _ => rfl
  | a :: x, [] => by cases x <;> simp [Op.bytesLess]
  | a :: x, b :: y => by
    simp only [List.cons_append, Op.bytesLess, less_next x y]
    by_cases h1 : a < b
    · have h2 : ¬ b < a := UInt8.lt_asymm h1
      have h3 : ¬ b = a := fun e => by subst e; exact UInt8.lt_irrefl _ h1
      simp [h1, h2, h3]
    · by_cases h2 : b < a
      · have h3 : ¬ a = b := fun e => by subst e; exact UInt8.lt_irrefl _ h2
        simp [h1, h2, h3]
      · have h3 : a = b := UInt8.le_antisymm (UInt8.not_lt.1 h2) (UInt8.not_lt.1 h1)
        subst h3
        simp [h1]
theorem text_ext {a b : ByteArray} (h : a.toList = b.toList) : a = b := by
  rw [ByteArray.toList_eq, ByteArray.toList_eq] at h
  exact ByteArray.ext (Array.toList_inj.1 h)
theorem lt_self (a : ByteArray) : ltB a a = false := less_self _
theorem lt_or {a b : ByteArray} (h : ltB a b = false) (h' : ltB b a = false) : a = b := text_ext (less_or _ _ h h')
theorem lt_trans {a b c : ByteArray} (h : ltB a b = true) (h' : ltB b c = true) : ltB a c = true := less_trans _ _ _ h h'
/-- The empty text. -/
def nilT : ByteArray := ⟨#[]⟩
theorem nil_list : nilT.toList = [] := ByteArray.toList_eq _
theorem lt_nil (a : ByteArray) : ltB a nilT = false := by
  unfold ltB; rw [nil_list]; cases a.toList <;> rfl
theorem nil_eq (a : ByteArray) : nilB a = eqB a nilT := by
  unfold nilB eqB; rw [nil_list]; cases a.toList <;> rfl
theorem eq_iff (a b : ByteArray) : eqB a b = true ↔ a = b := by
  unfold eqB; rw [beq_iff_eq]; exact ⟨text_ext, fun h => by rw [h]⟩
theorem next_list (a : ByteArray) : (a ++ ⟨#[0]⟩).toList = a.toList ++ [0] := by
  rw [ByteArray.toList_eq, ByteArray.toList_eq]; simp
/-- How many of the texts L are below x. -/
def rk (L : List ByteArray) (x : ByteArray) : Nat := L.countP fun y => ltB y x
theorem rk_le (L : List ByteArray) {a b : ByteArray} (h : ltB a b = true) : rk L a ≤ rk L b :=
  List.countP_mono_left fun _ _ hx => lt_trans hx h
theorem rk_lt {L : List ByteArray} {a b : ByteArray} (ha : a ∈ L) (h : ltB a b = true) : rk L a < rk L b := by
  induction L with
  | nil => cases ha
  | cons c L ih =>
    have hm := rk_le L h
    unfold rk at hm ih ⊢
    rw [List.countP_cons, List.countP_cons]
    by_cases hc : a ∈ L
    · have h1 := ih hc
      by_cases h2 : ltB c a = true
      · rw [if_pos h2, if_pos (lt_trans h2 h)]; omega
      · rw [if_neg h2]; split <;> omega
    · obtain rfl : a = c := by
        rcases List.mem_cons.1 ha with h1 | h1
        · exact h1
        · exact absurd h1 hc
      rw [if_neg (by rw [lt_self]; simp), if_pos h]; omega
theorem rk_iff {L : List ByteArray} {a b : ByteArray} (ha : a ∈ L) (hb : b ∈ L) : ltB a b = decide (rk L a < rk L b) := by
  cases h : ltB a b
  · symm; rw [decide_eq_false_iff_not]
    cases h' : ltB b a
    · rw [lt_or h h']; omega
    · have := rk_lt hb h'; omega
  · have := rk_lt ha h; symm; rw [decide_eq_true_iff]; exact this
theorem rk_inj {L : List ByteArray} {a b : ByteArray} (ha : a ∈ L) (hb : b ∈ L) : eqB a b = decide (rk L a = rk L b) := by
  rw [Bool.eq_iff_iff, eq_iff, decide_eq_true_iff]
  refine ⟨fun h => by rw [h], fun h => ?_⟩
  have h1 := rk_iff ha hb
  have h2 := rk_iff hb ha
  rw [h] at h1 h2
  exact lt_or (by rw [h1]; simp) (by rw [h2]; simp)
theorem rk_nil (L : List ByteArray) : rk L nilT = 0 := by
  unfold rk; rw [List.countP_eq_zero]; intro x _; rw [lt_nil]; simp
theorem rk_none {L : List ByteArray} {a : ByteArray} (h0 : nilT ∈ L) (ha : a ∈ L) : nilB a = decide (rk L a = 0) := by
  rw [nil_eq, rk_inj ha h0, rk_nil]
end Go.Proofs.Ytjkdccokiaejhaa
/- What is said of spans, as plain facts. No condition: nothing here speaks of a program. -/
namespace Go.Proofs.Ytjkdccokiaejhaa
set_option maxRecDepth 100000
open Go.RowKit
theorem next_nil (y : ByteArray) : nilB (nextT y) = false := by
  unfold nilB nextT; rw [next_list]; cases y.toList <;> rfl
theorem le_not (a b : ByteArray) : (ltB a b || eqB a b) = !ltB b a := by
  rw [Bool.eq_iff_iff]
  simp [rk_iff (L := [a, b]), rk_inj (L := [a, b])]
  omega
theorem lt_next (x k : ByteArray) : ltB x (nextT k) = !ltB k x := by unfold ltB nextT; rw [next_list, less_next]
theorem in_next (x k : ByteArray) : inB x (nextT k) = !ltB k x := by unfold inB; rw [next_nil, lt_next, Bool.false_or]
theorem end_next (k h : ByteArray) : endB (nextT k) h = inB k h := by
  unfold endB inB; rw [next_nil, le_not, lt_next, Bool.not_not, Bool.not_false, Bool.true_and]
theorem point_em (k : ByteArray) : emB k (nextT k) = false := by unfold emB; rw [in_next, lt_self]; rfl
theorem of_has (k : ByteArray) : hasB k (nextT k) k = true := by unfold hasB; rw [in_next, lt_self]; rfl
theorem of_cov (lo hi k : ByteArray) : covB lo hi k (nextT k) = hasB lo hi k := by unfold covB hasB; rw [point_em, end_next, Bool.false_or]
theorem of_meet (lo hi k : ByteArray) : meetB lo hi k (nextT k) = hasB lo hi k := by
  unfold meetB
  rw [point_em, in_next, Bool.eq_iff_iff]
  simp [hasB, emB, inB, rk_none (L := [nilT, lo, hi, k]), rk_iff (L := [nilT, lo, hi, k])]
  omega
theorem point_meet (a b : ByteArray) : meetB a (nextT a) b (nextT b) = eqB a b := by
  unfold meetB
  rw [point_em, point_em, in_next, in_next, Bool.eq_iff_iff]
  simp [rk_iff (L := [a, b]), rk_inj (L := [a, b])]
  omega
theorem has_ref (lo hi k : ByteArray) : hasB lo hi k = rhasB lo hi k := rfl
theorem em_ref (lo hi : ByteArray) : emB lo hi = remB lo hi := by
  rw [Bool.eq_iff_iff]
  simp [emB, inB, remB, leB, rk_none (L := [nilT, lo, hi]), rk_iff (L := [nilT, lo, hi]), rk_inj (L := [nilT, lo, hi])]
  omega
theorem meet_ref (la ha lb hb : ByteArray) : meetB la ha lb hb = rmeetB la ha lb hb := by
  rw [Bool.eq_iff_iff]
  simp [meetB, emB, inB, rmeetB, remB, leB, rk_none (L := [nilT, la, ha, lb, hb]), rk_iff (L := [nilT, la, ha, lb, hb]), rk_inj (L := [nilT, la, ha, lb, hb])]
  omega
theorem cov_ref (la ha lb hb : ByteArray) : covB la ha lb hb = rcovB la ha lb hb := by
  rw [Bool.eq_iff_iff]
  simp [covB, endB, emB, inB, rcovB, remB, leB, rk_none (L := [nilT, la, ha, lb, hb]), rk_iff (L := [nilT, la, ha, lb, hb]), rk_inj (L := [nilT, la, ha, lb, hb])]
  omega
theorem max_swap (a b : ByteArray) : maxT a b = maxT b a := by
  unfold maxT
  cases h : ltB a b <;> cases h' : ltB b a
  · rw [lt_or h h']
  · rfl
  · rfl
  · have := lt_trans h h'; rw [lt_self] at this; cases this
theorem end_or {a b : ByteArray} (h : endB a b = endB b a) : a = b := by
  rw [← eq_iff]
  unfold endB at h
  revert h
  rw [Bool.eq_iff_iff]
  simp [rk_none (L := [nilT, a, b]), rk_iff (L := [nilT, a, b]), rk_inj (L := [nilT, a, b])]
  omega
theorem min_swap (a b : ByteArray) : minT a b = minT b a := by
  unfold minT
  cases h : endB a b <;> cases h' : endB b a
  · rw [end_or (h.trans h'.symm)]
  · rfl
  · rfl
  · rw [end_or (h.trans h'.symm)]
theorem end_no (a b : ByteArray) : (nilB a || (!nilB b && ltB b a)) = (!endB a b || eqB a b && nilB a) := by
  rw [Bool.eq_iff_iff]
  simp [endB, rk_none (L := [nilT, a, b]), rk_iff (L := [nilT, a, b]), rk_inj (L := [nilT, a, b])]
  omega
theorem min_pick (a b : ByteArray) : (if (nilB a || (!nilB b && ltB b a)) = true then b else a) = minT a b := by
  rw [end_no]
  unfold minT
  cases h : endB a b
  · rfl
  · by_cases h' : eqB a b = true
    · rw [(eq_iff a b).1 h']; split <;> rfl
    · rw [Bool.not_eq_true] at h'; rw [h']; rfl
theorem both_has (la ha lb hb k : ByteArray) : hasB (maxT la lb) (minT ha hb) k = (hasB la ha k && hasB lb hb k) := by
  unfold maxT minT
  cases h1 : ltB la lb <;> cases h2 : endB ha hb
  all_goals
    rw [Bool.eq_iff_iff]
    simp [endB, hasB, inB, rk_none (L := [nilT, la, ha, lb, hb, k]), rk_iff (L := [nilT, la, ha, lb, hb, k]), rk_inj (L := [nilT, la, ha, lb, hb, k])] at h1 h2 ⊢
    omega
theorem meet_both (la ha lb hb : ByteArray) : meetB la ha lb hb = (!emB la ha && (!emB lb hb && !emB (maxT la lb) (minT ha hb))) := by
  unfold maxT minT
  cases h1 : ltB la lb <;> cases h2 : endB ha hb
  all_goals
    rw [Bool.eq_iff_iff]
    simp [endB, meetB, emB, inB, rk_none (L := [nilT, la, ha, lb, hb]), rk_iff (L := [nilT, la, ha, lb, hb]), rk_inj (L := [nilT, la, ha, lb, hb])] at h1 h2 ⊢
    omega
theorem has_meet (la ha lb hb k : ByteArray) : (hasB la ha k && hasB lb hb k && !meetB la ha lb hb) = false := by
  rw [Bool.eq_iff_iff]
  simp [hasB, meetB, emB, inB, rk_none (L := [nilT, la, ha, lb, hb, k]), rk_iff (L := [nilT, la, ha, lb, hb, k])]
  omega
theorem cov_has (la ha lb hb k : ByteArray) : (covB la ha lb hb && hasB lb hb k && !hasB la ha k) = false := by
  rw [Bool.eq_iff_iff]
  simp [hasB, covB, endB, emB, inB, rk_none (L := [nilT, la, ha, lb, hb, k]), rk_iff (L := [nilT, la, ha, lb, hb, k]), rk_inj (L := [nilT, la, ha, lb, hb, k])]
  omega
theorem em_has (lo hi k : ByteArray) : (emB lo hi && hasB lo hi k) = false := by
  rw [Bool.eq_iff_iff]
  simp [hasB, emB, inB, rk_none (L := [nilT, lo, hi, k]), rk_iff (L := [nilT, lo, hi, k])]
  omega
theorem meet_swap (la ha lb hb : ByteArray) : meetB la ha lb hb = meetB lb hb la ha := by
  unfold meetB
  cases emB la ha <;> cases emB lb hb <;> cases inB la hb <;> cases inB lb ha <;> rfl
theorem meet_self (lo hi : ByteArray) : meetB lo hi lo hi = !emB lo hi := by
  unfold meetB emB
  cases inB lo hi <;> rfl
theorem cov_self (lo hi : ByteArray) : covB lo hi lo hi = true := by
  rw [Bool.eq_iff_iff]
  simp [covB, endB, emB, inB, rk_none (L := [nilT, lo, hi]), rk_iff (L := [nilT, lo, hi]), rk_inj (L := [nilT, lo, hi])]
theorem cov_on (la ha lb hb lc hc : ByteArray) : (!covB la ha lb hb || (!covB lb hb lc hc || (covB la ha lc hc || emB lb hb))) = true := by
  rw [Bool.eq_iff_iff]
  simp [covB, endB, emB, inB, rk_none (L := [nilT, la, ha, lb, hb, lc, hc]), rk_iff (L := [nilT, la, ha, lb, hb, lc, hc]), rk_inj (L := [nilT, la, ha, lb, hb, lc, hc])]
  omega
end Go.Proofs.Ytjkdccokiaejhaa
/- The document's own come to the same as the program's, in plain words. No condition: nothing here speaks of a program. -/
namespace Go.Proofs.Ytjkdccokiaejhaa
set_option maxRecDepth 100000
open Go.RowKit
theorem bare_named {x : Cm} (h1 : 1 ≤ x.k) (h5 : x.k ≤ 5) : bareC x = namedC x := by
  unfold bareC namedC
  by_cases a : x.k = 2
  · rw [if_pos a, if_neg (by omega), if_pos a]
  · by_cases b : x.k = 4
    · rw [if_neg a, if_pos b, if_neg (by omega), if_neg a, if_pos b]
    · by_cases c : x.k = 5
      · rw [if_neg a, if_neg b, if_pos c, if_neg (by omega), if_neg a, if_neg b, if_pos c]
      · rw [if_neg a, if_neg b, if_neg c, if_pos (by omega)]
theorem bound_bad {x : Cm} (h1 : 1 ≤ x.k) (h5 : x.k ≤ 5) : boundC x = (!badC x && (decide (x.k = 5) || !nilB x.key)) := by
  unfold boundC badC
  cases hn : nilB x.key
  all_goals
    rw [Bool.eq_iff_iff]
    simp only [Bool.and_eq_true, Bool.or_eq_true, Bool.not_eq_true', Bool.and_eq_false_iff, Bool.or_eq_false_iff, decide_eq_true_eq, decide_eq_false_iff_not]
    simp
    omega
theorem rright_is (x : Cm) : rrightC x = rightC x := by
  by_cases h0 : x.k = 0
  · unfold rrightC rightC
    have hb : badC x = true := by unfold badC; rw [decide_eq_true (show x.k < 1 by omega)]; rfl
    rw [if_pos h0, hb]
    simp
  · have hz : sameC x zeroC = false := by
      cases hs : sameC x zeroC
      · rfl
      · rw [sameC_iff] at hs; rw [hs] at h0; exact absurd rfl h0
    by_cases h : 1 ≤ x.k ∧ x.k ≤ 5
    · unfold rrightC rightC
      rw [if_neg h0, hz, bare_named h.1 h.2, bound_bad h.1 h.2]
      cases badC x <;> cases sameC x (namedC x) <;> simp
    · have hb : badC x = true := by
        unfold badC
        by_cases h1 : x.k < 1
        · rw [decide_eq_true h1]; rfl
        · rw [decide_eq_true (show 5 < x.k by omega), Bool.true_or, Bool.or_true]
      have hr : rightC x = false := by
        cases hr : rightC x
        · rfl
        · exact absurd (right_kind hr h0).2.2 h
      unfold rrightC
      rw [hz, hb, hr]
      rfl
theorem right_zeroC : rightC zeroC = true := by
  unfold rightC
  rw [if_pos (show zeroC.k = 0 from rfl), sameC_iff]
theorem rclash_is (x y : Cm) : rclashC x y = clashC x y := by
  unfold rclashC clashC; rw [meet_ref]
end Go.Proofs.Ytjkdccokiaejhaa
/- The document's RightBallot and RightCell. Conditions: a cell's attributes are eight numbers. -/
namespace Go.Proofs.Ytjkdccokiaejhaa
set_option maxRecDepth 100000
open Go.RowKit
end Go.Proofs.Ytjkdccokiaejhaa
/- The document's RightCell. Conditions: a cell's attributes are eight numbers. -/
namespace Go.Proofs.Ytjkdccokiaejhaa
set_option maxRecDepth 100000
open Go.RowKit
theorem CeAt.new {x : Cl} (h : x.a.length = 8) (w : World) (t : TypeId) : CeAt (w.alloc (.cells (clC x) t)) w.heap.size t x := ⟨Row.new w t _, h⟩
end Go.Proofs.Ytjkdccokiaejhaa
/- Join of package deps: its contract. Conditions: the slice has room. -/
namespace Go.Proofs.Ytjkdccokiaejhaa
set_option maxRecDepth 100000
open Go.RowKit
theorem take_snoc {α : Type} {l : List α} {k : Nat} {x : α} (h : l[k]? = some x) : l.take (k + 1) = l.take k ++ [x] := by
  have hk : k < l.length := by
    rcases Nat.lt_or_ge k l.length with h1 | h1
    · exact h1
    · rw [List.getElem?_eq_none h1] at h; cases h
  rw [List.getElem?_eq_getElem hk] at h
  rw [List.take_succ_eq_append_getElem hk, Option.some.inj h]
theorem fold_snoc (a : List Int) {l : List (List Int)} {k : Nat} {x : List Int} (h : l[k]? = some x) : (l.take (k + 1)).foldl maxA a = maxA ((l.take k).foldl maxA a) x := by
  rw [take_snoc h, List.foldl_append]; rfl
theorem fold_len {a : List Int} (h : a.length = 8) : ∀ l : List (List Int), (l.foldl maxA a).length = 8
  | [] => h
  | x :: r => fold_len (a := maxA a x) rfl r
set_option maxRecDepth 100000 in
set_option maxHeartbeats 4000000 in
theorem join_any (A : Option Addr) (n c : Nat) (l : List (List Int)) (w : World) (hn : l.length = n) (h8 : All 8 l) (hl : Its 8 w A l) (hc : n ≤ c) (lc : c ≤ 9223372036854775807) :
    Calls Try.prog 38 #[.slice A n c] w fun e w' => e = .returned (.agg (cA (joinL l))) ∧ Below w.heap.size w w' := by
  subst hn
  rcases l with _ | ⟨a, r⟩
  · go_enter Try.func38, Try.ntmps38
    go_wp2
    refine bodyPost_ret (v := .agg (cA zero8)) (by simp [results, Try.results38, go_sem, cA, cellsR, zero8]) rfl ⟨rfl, (Below.refl _ _).alloc (Nat.le_refl _) _⟩
  · obtain ⟨a0, a1, a2, a3, a4, a5, a6, a7, rfl⟩ := len8 (h8 a (by simp))
    have hr8 : All 8 r := fun x hx => h8 x (by simp [hx])
    obtain ⟨b, off, rfl, hb, hc0⟩ := hl.at_ (k := 0) (x := [a0, a1, a2, a3, a4, a5, a6, a7]) rfl
    obtain ⟨c0, c1, c2, c3, c4, c5, c6, c7⟩ := eight_lit (eight_at (o := off) (by simpa using hc0))
    clear hc0
    have HI := hide hl
    have HR8 := hide hr8
    clear hl hr8 h8
    have ST := hide (show Jn w ((w.alloc (.cells (cA zero8) 26)).alloc (.cells (cA [a0, a1, a2, a3, a4, a5, a6, a7]) 26)) [a0, a1, a2, a3, a4, a5, a6, a7] from
      ⟨kept_alloc (kept_alloc (kept_refl w) _) _, (Row.new w _ _).alloc _, by have h := Row.new (w.alloc (.cells (cA zero8) 26)) 26 (cA [a0, a1, a2, a3, a4, a5, a6, a7]); simpa using h⟩)
    rcases r with _ | ⟨a', r⟩
    · have l1 : (1 : Int) ≤ c := by simp at hc; omega
      go_enter Try.func38, Try.ntmps38
      go_wp2
      all_goals
        refine wp_loop_rounds 1 ?_
        rw [rounds_succ]
        go_wp2
        refine bodyPost_ret (v := .agg (cA [a0, a1, a2, a3, a4, a5, a6, a7])) (by simp [results, Try.results38, go_sem, cA, cellsR]) rfl ⟨rfl, (kept_alloc (kept_alloc (kept_refl w) _) _)⟩
    · generalize hR : a' :: r = R at *
      have lR : 1 ≤ R.length := by rw [← hR]; simp
      clear hR
      generalize hN : ([a0, a1, a2, a3, a4, a5, a6, a7] :: R).length = N at *
      have HL := hide (show R.length + 1 = N from hN)
      have HZ := hide (show joinL ([a0, a1, a2, a3, a4, a5, a6, a7] :: R) = R.foldl maxA [a0, a1, a2, a3, a4, a5, a6, a7] from rfl)
      generalize joinL ([a0, a1, a2, a3, a4, a5, a6, a7] :: R) = Z at HZ ⊢
      have hb1 : ((N : Int) == 0) = false := by simp at hN ⊢; omega
      have hc1 : ¬ c = 1 := by simp at hN; omega
      have h1N : (1 : Int) ≤ N := by simp at hN; omega
      clear hN lR
      have EL : Hid (∀ (w' : World) k x, Below w.heap.size w w' → R[k]? = some x → Cells8 w' b (off + 8 + k * 8) x) := fun w' k x hbw hk => by
        obtain ⟨b', off', e, _, hce⟩ := (HI.out.below hbw).at_ (k := k + 1) (x := x) (by simpa using hk)
        injection e with e
        injection e with e1 e2
        subst e1 e2
        exact eight_at (by rw [show off + 8 + k * 8 = off + (k + 1) * 8 by omega]; exact hce)
      go_enter Try.func38, Try.ntmps38
      go_wp2
      go_loopw [18] (fun i wr => ∃ k : Nat, k ≤ R.length ∧ i = .int .i64 k ∧ Hid (Jn w wr ((R.take k).foldl maxA [a0, a1, a2, a3, a4, a5, a6, a7]))) (fun i _ => R.length - (intOf i).toNat)
      case atStart => exact ⟨0, by omega, rfl, ST.out⟩
      case round =>
        obtain ⟨wo, rfl⟩ : ∃ wo : World, wo = wr := ⟨_, rfl⟩
        obtain ⟨k, hk, rfl, J⟩ := hrel
        by_cases hlt : k < R.length
        · obtain ⟨x, hx⟩ : ∃ x, R[k]? = some x := ⟨_, List.getElem?_eq_getElem hlt⟩
          obtain ⟨x0, x1, x2, x3, x4, x5, x6, x7, rfl⟩ := len8 (HR8.out x (List.mem_of_getElem? hx))
          obtain ⟨e0, e1, e2, e3, e4, e5, e6, e7⟩ := eight_lit (EL.out wo k _ J.out.low hx)
          have HF := hide (fold_snoc [a0, a1, a2, a3, a4, a5, a6, a7] hx)
          have hl8 := fold_len (a := [a0, a1, a2, a3, a4, a5, a6, a7]) rfl (R.take k)
          generalize (R.take k).foldl maxA [a0, a1, a2, a3, a4, a5, a6, a7] = y at J HF hl8
          have hN : R.length + 1 = N := HL.out
          have hkN : (k : Int) < ((N - 1 : Nat) : Int) := by omega
          have J1 := hide (J.out.alloc (.cells (cA [x0, x1, x2, x3, x4, x5, x6, x7]) 26))
          have R1 := hide (Row.new wo 26 (cA [x0, x1, x2, x3, x4, x5, x6, x7]))
          have lo : w.heap.size + 1 < wo.heap.size := J.out.j.lt
          go_upto_region 7 with (fail)
          clear e0 e1 e2 e3 e4 e5 e6 e7
          have KW := hide (And.intro J1.out R1.out)
          clear J1 R1
          replace KW : Hid (Jn w (wo.alloc (.cells #[.int .i64 x0, .int .i64 x1, .int .i64 x2, .int .i64 x3, .int .i64 x4, .int .i64 x5, .int .i64 x6, .int .i64 x7] 26)) y ∧ Row (wo.alloc (.cells #[.int .i64 x0, .int .i64 x1, .int .i64 x2, .int .i64 x3, .int .i64 x4, .int .i64 x5, .int .i64 x6, .int .i64 x7] 26)) wo.heap.size 26 #[.int .i64 x0, .int .i64 x1, .int .i64 x2, .int .i64 x3, .int .i64 x4, .int .i64 x5, .int .i64 x6, .int .i64 x7]) := KW
          generalize World.alloc wo _ = w1 at KW ⊢
          have f0 := row_cA KW.out.1.j 0 (by omega)
          have g0 := KW.out.1.j.free 0
          obtain ⟨e0, -⟩ := KW.out.2.eight
          replace e0 : w1.cell? ⟨wo.heap.size, 0, none⟩ = some (.int .i64 x0) := e0
          have KW2 := hide (And.intro (KW.out.1.put 0 (.int .i64 (max (ix y 0) x0)) (set_mix0 [x0, x1, x2, x3, x4, x5, x6, x7] hl8)) ((Below.heap_setCell w1 ⟨w.heap.size + 1, 0, none⟩ (.int .i64 (max (ix y 0) x0)) wo.heap.size (by show wo.heap.size ≠ w.heap.size + 1; omega)).trans KW.out.2))
          clear KW
          go_upto_region 8 with (fail)
          clear f0 g0 e0
          replace KW2 : Hid (Jn w (w1.setCell ⟨w.heap.size + 1, 0, none⟩ (.int .i64 (max (ix y 0) x0))) (mixA y [x0, x1, x2, x3, x4, x5, x6, x7] 0) ∧ Row (w1.setCell ⟨w.heap.size + 1, 0, none⟩ (.int .i64 (max (ix y 0) x0))) wo.heap.size 26 #[.int .i64 x0, .int .i64 x1, .int .i64 x2, .int .i64 x3, .int .i64 x4, .int .i64 x5, .int .i64 x6, .int .i64 x7]) := KW2
          generalize World.setCell w1 _ _ = w2 at KW2 ⊢
          have KJ := hide KW2.out.1
          obtain ⟨e0, e1, e2, e3, e4, e5, e6, e7⟩ := KW2.out.2.eight
          replace e1 : w2.cell? ⟨wo.heap.size, 1, none⟩ = some (.int .i64 x1) := e1
          replace e2 : w2.cell? ⟨wo.heap.size, 2, none⟩ = some (.int .i64 x2) := e2
          replace e3 : w2.cell? ⟨wo.heap.size, 3, none⟩ = some (.int .i64 x3) := e3
          replace e4 : w2.cell? ⟨wo.heap.size, 4, none⟩ = some (.int .i64 x4) := e4
          replace e5 : w2.cell? ⟨wo.heap.size, 5, none⟩ = some (.int .i64 x5) := e5
          replace e6 : w2.cell? ⟨wo.heap.size, 6, none⟩ = some (.int .i64 x6) := e6
          replace e7 : w2.cell? ⟨wo.heap.size, 7, none⟩ = some (.int .i64 x7) := e7
          clear KW2 e0
          go_wp2
          clear e1 e2 e3 e4 e5 e6 e7
          go_loopw [30] (fun i wr => ∃ m : Nat, m ≤ 7 ∧ i = .int .i64 m ∧ Hid (Jn w wr (mixA y [x0, x1, x2, x3, x4, x5, x6, x7] m))) (fun i _ => 7 - (intOf i).toNat)
          case atStart => exact ⟨0, by omega, rfl, KJ⟩
          case round =>
            clear KJ
            obtain ⟨m, hm, rfl, J2⟩ := hrel
            by_cases hm7 : m < 7
            · have f0 := row_cA J2.out.j (1 + m) (by rw [len_mixA]; omega)
              have g0 := J2.out.j.free (1 + m)
              have hi := index_deps x1 x2 x3 x4 x5 x6 x7 m hm7
              have he : ix [x1, x2, x3, x4, x5, x6, x7] m = ix [x0, x1, x2, x3, x4, x5, x6, x7] (1 + m) := by rw [Nat.add_comm]; rfl
              rw [he] at hi
              clear he
              have J3 := hide (J2.out.put (1 + m) _ (set_mix y [x0, x1, x2, x3, x4, x5, x6, x7] hm7))
              generalize ix [x0, x1, x2, x3, x4, x5, x6, x7] (1 + m) = q at hi J3
              generalize ix (mixA y [x0, x1, x2, x3, x4, x5, x6, x7] m) (1 + m) = p at f0 J3
              clear J2
              go_wp2
              go_roundw
              case rel => exact ⟨m + 1, by omega, by go_num, J3⟩
              case measure => simp [intOf]; omega
            · obtain rfl : m = 7 := by omega
              go_wp2
              go_roundw
              case rel => exact ⟨k + 1, by omega, by go_num, by rw [HF.out]; exact J2⟩
              case measure => simp [intOf]; omega
        · have hN : R.length + 1 = N := HL.out
          obtain rfl : k = R.length := by omega
          rw [List.take_of_length_le (Nat.le_refl _)] at J
          have hz := fold_len (a := [a0, a1, a2, a3, a4, a5, a6, a7]) rfl R
          generalize R.foldl maxA [a0, a1, a2, a3, a4, a5, a6, a7] = z at J hz HZ
          obtain ⟨z0, z1, z2, z3, z4, z5, z6, z7, rfl⟩ := len8 hz
          have hge : ¬ ((R.length : Int) < ((N - 1 : Nat) : Int)) := by omega
          have J' : Hid (Jn w wo [z0, z1, z2, z3, z4, z5, z6, z7]) := J
          obtain ⟨e0, e1, e2, e3, e4, e5, e6, e7⟩ := J.out.j.eight
          replace e0 : wo.cell? ⟨w.heap.size + 1, 0, none⟩ = some (.int .i64 z0) := e0
          replace e1 : wo.cell? ⟨w.heap.size + 1, 1, none⟩ = some (.int .i64 z1) := e1
          replace e2 : wo.cell? ⟨w.heap.size + 1, 2, none⟩ = some (.int .i64 z2) := e2
          replace e3 : wo.cell? ⟨w.heap.size + 1, 3, none⟩ = some (.int .i64 z3) := e3
          replace e4 : wo.cell? ⟨w.heap.size + 1, 4, none⟩ = some (.int .i64 z4) := e4
          replace e5 : wo.cell? ⟨w.heap.size + 1, 5, none⟩ = some (.int .i64 z5) := e5
          replace e6 : wo.cell? ⟨w.heap.size + 1, 6, none⟩ = some (.int .i64 z6) := e6
          replace e7 : wo.cell? ⟨w.heap.size + 1, 7, none⟩ = some (.int .i64 z7) := e7
          obtain ⟨k0, k1, k2, k3, k4, k5, k6, k7⟩ := J.out.res.eight
          replace k0 : wo.cell? ⟨w.heap.size, 0, none⟩ = some (.int .i64 0) := k0
          replace k1 : wo.cell? ⟨w.heap.size, 1, none⟩ = some (.int .i64 0) := k1
          replace k2 : wo.cell? ⟨w.heap.size, 2, none⟩ = some (.int .i64 0) := k2
          replace k3 : wo.cell? ⟨w.heap.size, 3, none⟩ = some (.int .i64 0) := k3
          replace k4 : wo.cell? ⟨w.heap.size, 4, none⟩ = some (.int .i64 0) := k4
          replace k5 : wo.cell? ⟨w.heap.size, 5, none⟩ = some (.int .i64 0) := k5
          replace k6 : wo.cell? ⟨w.heap.size, 6, none⟩ = some (.int .i64 0) := k6
          replace k7 : wo.cell? ⟨w.heap.size, 7, none⟩ = some (.int .i64 0) := k7
          obtain ⟨g0, g1, g2, g3, g4, g5, g6, g7⟩ := J.out.res.free8
          clear J hz
          go_wp2
          exact bodyPost_ret (results_at8 Try.results38 rfl (row_eight J'.out.res _ _ _ _ _ _ _ _)) rfl ⟨by rw [HZ.out]; rfl, below_eight J'.out.low (Nat.le_refl _) _ _ _ _ _ _ _ _⟩
end Go.Proofs.Ytjkdccokiaejhaa
