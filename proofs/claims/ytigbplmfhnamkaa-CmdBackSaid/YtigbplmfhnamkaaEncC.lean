/- Commands written one behind the other, and read again, in plain words; rows of commands. No condition: nothing here speaks of a program. -/
import Derived.Test.YtigbplmfhnamkaaRz
namespace Go.Proofs.Ytigbplmfhnamkaa
open Go.RowKit
section
variable {zs ys : List Int} {i : Nat}
theorem num_read (n : Int) (hd : zs.drop i = num7 n ++ ys) (h0 : -9223372036854775808 ≤ n) (h1 : n ≤ 9223372036854775807) :
    rNumV zs i 0 = n ∧ rNumA zs i 0 = i + (num7 n).length ∧ rNumE zs i 0 = 0 ∧ zs.drop (i + (num7 n).length) = ys := by
  obtain ⟨e1, e2, e3⟩ := rd_num7 n ys h0 h1
  have ee : rNumE zs i 0 = 0 := by unfold rNumE; rw [if_pos rfl, hd, e3]
  refine ⟨?_, ?_, ee, ?_⟩
  · unfold rNumV; rw [ee, if_pos rfl, hd, e1]
  · unfold rNumA; rw [ee, if_pos rfl, hd, e2]
  · rw [← List.drop_drop, hd, List.drop_left]
theorem text_read (s : ByteArray) (m : Int) (hd : zs.drop i = text7 s ++ ys) (hs : (s.size : Int) ≤ m) (hm : m ≤ 1000) :
    strOf (rTxtV zs i 0 m) = s ∧ rTxtA zs i 0 m = i + (text7 s).length ∧ rTxtE zs i 0 m = 0 ∧ zs.drop (i + (text7 s).length) = ys := by
  have hd' : zs.drop i = num7 (s.size : Int) ++ (strL s ++ ys) := by rw [hd]; unfold text7; rw [List.append_assoc]
  obtain ⟨e1, e2, e3⟩ := rd_num7 (s.size : Int) (strL s ++ ys) (by omega) (by omega)
  have ec : cntE (zs.drop i) m = 0 := by unfold cntE; rw [hd', e3, if_pos rfl, e1, if_neg (by omega)]
  have et : txtE (zs.drop i) m = 0 := by
    unfold txtE
    rw [ec, if_pos rfl, hd', e1, e2, List.length_append, List.length_append, length_strL, if_neg (by omega)]
  have ee : rTxtE zs i 0 m = 0 := by unfold rTxtE; rw [if_pos rfl, et]
  refine ⟨?_, ?_, ee, ?_⟩
  · unfold rTxtV
    rw [ee, if_pos rfl, hd', e1, e2, List.drop_left, Int.toNat_natCast, ← length_strL, List.take_left, str_strL]
  · unfold rTxtA
    rw [ee, if_pos rfl, hd', e1, e2, text7_len, Int.toNat_natCast, Nat.add_assoc]
  · rw [← List.drop_drop, hd, List.drop_left]
end
theorem noT_of {a : ByteArray} (h : noT = a) : a = noT := h.symm
/-- A right command's bytes are read as the command. -/
theorem read_pack {zs ys : List Int} {i : Nat} {x : Cm} (hr : rightC x = true) (hd : zs.drop i = packC x ++ ys) : readC zs i 0 = (x, i + (packC x).length, 0) := by
  have hp : packC x = bytesC x := by unfold packC; rw [hr]; rfl
  rw [hp] at hd ⊢
  by_cases h0 : x.k = 0
  · have hx := right_zero hr h0
    subst hx
    have hb : bytesC zeroC = num7 0 := rfl
    rw [hb] at hd ⊢
    obtain ⟨v, a, e, _⟩ := num_read 0 hd (by omega) (by omega)
    exact readC_none v a e
  · obtain ⟨hn, hbd, k1, k5⟩ := right_kind hr h0
    obtain ⟨c1, c8, q1, qm, sa, sb, so, sv⟩ := bound_says hbd
    have hb : bytesC x = num7 x.k ++ (num7 x.c ++ (num7 x.q ++ (text7 x.key ++ tailC x))) := by unfold bytesC; rw [if_neg h0]; simp only [List.append_assoc]
    rw [hb] at hd ⊢
    simp only [List.append_assoc] at hd
    obtain ⟨v1, a1, e1, d1⟩ := num_read x.k hd (by omega) (by omega)
    obtain ⟨v2, a2, e2, d2⟩ := num_read x.c d1 (by omega) (by omega)
    obtain ⟨v3, a3, e3, d3⟩ := num_read x.q d2 (by omega) (by omega)
    obtain ⟨v4, a4, e4, d4⟩ := text_read x.key 16 d3 (by omega) (by omega)
    rw [readC_some h0 v1 a1 e1 v2 a2 e2 v3 a3 e3 rfl a4 e4, v4]
    have hl : (num7 x.k ++ (num7 x.c ++ (num7 x.q ++ (text7 x.key ++ tailC x)))).length = (num7 x.k).length + (num7 x.c).length + (num7 x.q).length + (text7 x.key).length + (tailC x).length := by simp only [List.length_append]; omega
    rw [hl]
    obtain ⟨k, c, q, a, b, o, v⟩ := x
    unfold namedC at hn
    unfold tailC at d4 ⊢
    simp only at *
    by_cases g2 : k = 2
    · rw [if_neg (by omega), if_pos g2] at hn
      rw [if_pos g2] at d4 ⊢
      simp only [Cm.mk.injEq, true_and, and_true] at hn
      obtain ⟨w1, b1, f1, _⟩ := text_read v 64 d4 (by omega) (by omega)
      rw [if_pos g2, w1, b1, f1, hn.1, hn.2]
      simp only [Prod.mk.injEq, true_and, and_true]
      omega
    · by_cases g4 : k = 4
      · rw [if_neg (by omega), if_neg g2, if_pos g4] at hn
        rw [if_neg g2, if_pos g4] at d4 ⊢
        simp only [Cm.mk.injEq, true_and, and_true] at hn
        rw [List.append_assoc] at d4
        obtain ⟨w1, b1, f1, d5⟩ := text_read o 64 d4 (by omega) (by omega)
        obtain ⟨w2, b2, f2, _⟩ := text_read v 64 d5 (by omega) (by omega)
        rw [if_neg g2, if_pos g4, w1, b1, f1, w2, b2, f2, hn, List.length_append]
        simp only [Prod.mk.injEq, true_and, and_true]
        omega
      · by_cases g5 : k = 5
        · rw [if_neg (by omega), if_neg g2, if_neg g4, if_pos g5] at hn
          rw [if_neg g2, if_neg g4, if_pos g5] at d4 ⊢
          simp only [Cm.mk.injEq, true_and] at hn
          obtain ⟨w1, b1, f1, _⟩ := text_read b 16 d4 (by omega) (by omega)
          rw [if_neg g2, if_neg g4, if_pos g5, w1, b1, f1, hn.1, hn.2]
          simp only [Prod.mk.injEq, true_and, and_true]
          omega
        · rw [if_pos (by omega)] at hn
          rw [if_neg g2, if_neg g4, if_neg g5] at ⊢
          simp only [Cm.mk.injEq, true_and] at hn
          rw [if_neg g2, if_neg g4, if_neg g5, hn.1, hn.2.1, hn.2.2]
          simp only [Prod.mk.injEq, true_and, and_true, List.length_nil]
          omega
theorem get_pack {zs ys : List Int} {i : Nat} {x : Cm} (hr : rightC x = true) (hd : zs.drop i = packC x ++ ys) : getV zs i 0 = x ∧ getA zs i 0 = i + (packC x).length ∧ getE zs i 0 = 0 := by
  have h := read_pack hr hd
  have he : getE zs i 0 = 0 := by unfold getE; rw [h]; simp only; rw [hr]; rfl
  refine ⟨?_, ?_, he⟩
  · unfold getV; rw [he, if_pos rfl, h]
  · unfold getA; rw [h]
/-- So many commands' bytes, their cells. -/
def encC (ws : List Cm) : List Int := ws.flatMap packC
def cellsC (ws : List Cm) : List Value := ws.flatMap Cm.l
theorem encC_snoc (ws : List Cm) (x : Cm) : encC (ws ++ [x]) = encC ws ++ packC x := by unfold encC; rw [List.flatMap_append]; simp
theorem cellsC_snoc (ws : List Cm) (x : Cm) : cellsC (ws ++ [x]) = cellsC ws ++ x.l := by unfold cellsC; rw [List.flatMap_append]; simp
theorem encC_len (ws : List Cm) : (encC ws).length ≤ 300 * ws.length := by
  induction ws with
  | nil => simp [encC]
  | cons x ws ih =>
    have h := packC_len x
    unfold encC at ih ⊢
    rw [List.flatMap_cons, List.length_append, List.length_cons]
    omega
theorem cellsC_len (ws : List Cm) : (cellsC ws).length = ws.length * 7 := by
  induction ws with
  | nil => rfl
  | cons x ws ih =>
    unfold cellsC at ih ⊢
    rw [List.flatMap_cons, List.length_append, List.length_cons, ih]
    have : x.l.length = 7 := rfl
    omega
theorem octets_packC (x : Cm) : Octets (packC x) := by
  have ht : ∀ s, Octets (text7 s) := fun s z hz => by
    unfold text7 at hz
    rcases List.mem_append.1 hz with hz | hz
    · exact octets_num7 _ z hz
    · exact octets_strL s z hz
  have ha : ∀ {a b : List Int}, Octets a → Octets b → Octets (a ++ b) := fun h g z hz => by
    rcases List.mem_append.1 hz with hz | hz
    · exact h z hz
    · exact g z hz
  have h0 : Octets [] := fun z hz => by cases hz
  unfold packC
  split
  · unfold bytesC
    split
    · exact octets_num7 _
    · refine ha (ha (ha (ha (octets_num7 _) (octets_num7 _)) (octets_num7 _)) (ht _)) ?_
      unfold tailC
      split
      · exact ht _
      · split
        · exact ha (ht _) (ht _)
        · split
          · exact ht _
          · exact h0
  · exact h0
theorem octets_encC (ws : List Cm) : Octets (encC ws) := by
  intro z hz
  unfold encC at hz
  obtain ⟨x, _, hx⟩ := List.mem_flatMap.1 hz
  exact octets_packC x z hx
/-- Behind the first ones. -/
theorem encC_at {ws : List Cm} {j : Nat} (hj : j < ws.length) : (encC ws).drop (encC (ws.take j)).length = packC ws[j] ++ encC (ws.drop (j + 1)) := by
  have h : ws = ws.take j ++ (ws[j] :: ws.drop (j + 1)) := by rw [← List.drop_eq_getElem_cons hj, List.take_append_drop]
  have e : encC ws = encC (ws.take j) ++ (packC ws[j] ++ encC (ws.drop (j + 1))) := by
    conv => lhs; rw [h]
    unfold encC
    rw [List.flatMap_append, List.flatMap_cons]
  rw [e, List.drop_left]
theorem encC_next {ws : List Cm} {j : Nat} (hj : j < ws.length) : (encC (ws.take (j + 1))).length = (encC (ws.take j)).length + (packC ws[j]).length := by
  rw [List.take_succ_eq_append_getElem hj, encC_snoc, List.length_append]
theorem cellsC_at {ws : List Cm} {j m : Nat} (hj : j < ws.length) (hm : m < 7) : (cellsC ws)[j * 7 + m]? = (ws[j]).l[m]? := by
  have h : ws = ws.take j ++ (ws[j] :: ws.drop (j + 1)) := by rw [← List.drop_eq_getElem_cons hj, List.take_append_drop]
  have e : cellsC ws = cellsC (ws.take j) ++ ((ws[j]).l ++ cellsC (ws.drop (j + 1))) := by
    conv => lhs; rw [h]
    unfold cellsC
    rw [List.flatMap_append, List.flatMap_cons]
  have hl : (cellsC (ws.take j)).length = j * 7 := by rw [cellsC_len, List.length_take]; congr 1; omega
  have h7 : ((ws[j]).l).length = 7 := rfl
  rw [e, List.getElem?_append_right (by omega), hl, Nat.add_sub_cancel_left, List.getElem?_append_left (by omega)]
theorem pack_some {x : Cm} (h : rightC x = true) : 0 < (packC x).length := by
  unfold packC
  rw [h, if_pos rfl]
  unfold bytesC
  have := (num7_len x.k).1
  have h0 := (num7_len 0).1
  split
  · omega
  · simp only [List.length_append]; omega
theorem pack_none {x : Cm} (h : rightC x = false) : packC x = [] := by unfold packC; rw [h]; rfl
end Go.Proofs.Ytigbplmfhnamkaa
