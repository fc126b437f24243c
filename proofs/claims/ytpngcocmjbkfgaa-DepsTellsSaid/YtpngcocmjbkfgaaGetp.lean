/- Attributes as bytes, and what is read of bytes, in plain words. No program is spoken of. -/
import Derived.Test.YtpngcocmjbkfgaaState
import Derived.Test.YtpngcocmjbkfgaaArr
import Derived.Test.YtpngcocmjbkfgaaJoin
import Derived.Test.YtpngcocmjbkfgaaKey8
namespace Go.Proofs.Ytpngcocmjbkfgaa
open Go.RowKit
/-- Numbers one behind the other. -/
def encN (l : List Int) : List Int := l.flatMap num7
/-- So many numbers are read one behind the other: the place, the error. -/
def stN (zs : List Int) : Nat → Int → Nat → Nat × Int
  | i, e, 0 => (i, e)
  | i, e, n + 1 => stN zs (rNumA zs i e) (rNumE zs i e) n
/-- The n-th of them. -/
def valN (zs : List Int) (i : Nat) (e : Int) (n : Nat) : Int := rNumV zs (stN zs i e n).1 (stN zs i e n).2
theorem stN_last (zs : List Int) : ∀ (n : Nat) (i : Nat) (e : Int), stN zs i e (n + 1) = (rNumA zs (stN zs i e n).1 (stN zs i e n).2, rNumE zs (stN zs i e n).1 (stN zs i e n).2)
  | 0, _, _ => rfl
  | n + 1, i, e => stN_last zs n (rNumA zs i e) (rNumE zs i e)
theorem valN_succ (zs : List Int) (i : Nat) (e : Int) (n : Nat) : valN zs i e (n + 1) = valN zs (rNumA zs i e) (rNumE zs i e) n := rfl
theorem encN_cons (x : Int) (l : List Int) : encN (x :: l) = num7 x ++ encN l := rfl
theorem encN_len : ∀ l : List Int, l.length ≤ (encN l).length ∧ (encN l).length ≤ 10 * l.length
  | [] => by simp [encN]
  | x :: r => by
    have := encN_len r
    have h7 := num7_len x
    rw [encN_cons, List.length_append, List.length_cons]
    omega
theorem octets_encN : ∀ l : List Int, Octets (encN l)
  | [] => fun _ h => by cases h
  | x :: r => fun z hz => by
    rw [encN_cons] at hz
    exact (List.mem_append.1 hz).elim (octets_num7 x z) (octets_encN r z)
/-- What is read of a number that stands there. -/
theorem num_there {zs : List Int} {i : Nat} {x : Int} {ys : List Int} (h : zs.drop i = num7 x ++ ys) (hx : I64 x) : rNumE zs i 0 = 0 ∧ rNumV zs i 0 = x ∧ rNumA zs i 0 = i + (num7 x).length := by
  obtain ⟨h1, h2, h3⟩ := rd_num7 x ys hx.1 hx.2
  have e : rNumE zs i 0 = 0 := by unfold rNumE; rw [if_pos rfl, h, h3]
  refine ⟨e, ?_, ?_⟩
  · unfold rNumV; rw [if_pos e, h, h1]
  · unfold rNumA; rw [if_pos e, h, h2]
theorem drop_more {zs a b : List Int} {i : Nat} (h : zs.drop i = a ++ b) : zs.drop (i + a.length) = b := by
  rw [← List.drop_drop, h, List.drop_left]
/-- All of them are there. -/
theorem read_there (zs : List Int) : ∀ (l : List Int) (i : Nat) (ys : List Int), zs.drop i = encN l ++ ys → (∀ x, x ∈ l → I64 x) → stN zs i 0 l.length = (i + (encN l).length, 0) ∧ ∀ k, k < l.length → valN zs i 0 k = ix l k
  | [], i, _, _, _ => ⟨rfl, fun k hk => absurd hk (by simp)⟩
  | x :: r, i, ys, h, hl => by
    rw [encN_cons, List.append_assoc] at h
    obtain ⟨h1, h2, h3⟩ := num_there h (hl x (by simp))
    obtain ⟨g1, g2⟩ := read_there zs r (i + (num7 x).length) ys (drop_more h) (fun y hy => hl y (by simp [hy]))
    refine ⟨?_, fun k hk => ?_⟩
    · show stN zs (rNumA zs i 0) (rNumE zs i 0) r.length = _
      rw [h1, h3, g1, encN_cons, List.length_append, Nat.add_assoc]
    · cases k with
      | zero => exact h2
      | succ k =>
        rw [valN_succ, h1, h3]
        exact g2 k (by simpa using hk)
theorem stN_wrong (zs : List Int) {e : Int} (he : e ≠ 0) : ∀ (n i : Nat), (stN zs i e n).2 = e
  | 0, _ => rfl
  | n + 1, i => by
    have h : rNumE zs i e = e := by unfold rNumE; rw [if_neg he]
    show (stN zs (rNumA zs i e) (rNumE zs i e) n).2 = e
    rw [h]
    exact stN_wrong zs he n _
/-- They are cut off somewhere. -/
theorem read_cut (zs : List Int) : ∀ (l : List Int) (i q : Nat), zs.drop i = (encN l).take q → q < (encN l).length → (∀ x, x ∈ l → I64 x) → (stN zs i 0 l.length).2 = 3
  | [], i, q, _, h, _ => by simp [encN] at h
  | x :: r, i, q, h, hq, hl => by
    rw [encN_cons] at h hq
    by_cases hc : q < (num7 x).length
    · rw [List.take_append_of_le_length (by omega)] at h
      have e : rNumE zs i 0 = 3 := by unfold rNumE; rw [if_pos rfl, h, rd_cut x q hc]
      show (stN zs (rNumA zs i 0) (rNumE zs i 0) r.length).2 = 3
      rw [e]
      exact stN_wrong zs (by omega) _ _
    · have h' : zs.drop i = num7 x ++ (encN r).take (q - (num7 x).length) := by rw [h, List.take_append, List.take_of_length_le (by omega)]
      obtain ⟨h1, _, h3⟩ := num_there h' (hl x (by simp))
      rw [List.length_append] at hq
      show (stN zs (rNumA zs i 0) (rNumE zs i 0) r.length).2 = 3
      rw [h1, h3]
      exact read_cut zs r _ _ (drop_more h') (by omega) (fun y hy => hl y (by simp [hy]))
/-- What Get reads: the numbers; the error; the answer. -/
def getL (zs : List Int) (i : Nat) (e : Int) : List Int := tab8 (valN zs i e)
def getOk (zs : List Int) (i : Nat) (e : Int) : Bool := rightA (ix (getL zs i e) 0) (getL zs i e).tail
def getE (zs : List Int) (i : Nat) (e : Int) : Int := if getOk zs i e then (stN zs i e 8).2 else rFailE (stN zs i e 8).2
def getV (zs : List Int) (i : Nat) (e : Int) : List Int := if getE zs i e = 0 then getL zs i e else zero8
theorem get_there {a : List Int} (h : Ok8 a) : getL (encN a) 0 0 = a ∧ stN (encN a) 0 0 8 = ((encN a).length, 0) := by
  obtain ⟨h1, h2⟩ := read_there (encN a) a 0 [] (by simp) h.ok
  rw [h.len] at h1 h2
  rw [Nat.zero_add] at h1
  exact ⟨(tab8_of h.len fun i hi => (h2 i hi).symm).symm, h1⟩
theorem get_cut {a : List Int} (h : Ok8 a) {q : Nat} (hq : q < (encN a).length) : getE ((encN a).take q) 0 0 = 3 ∧ getV ((encN a).take q) 0 0 = zero8 := by
  have h1 := read_cut ((encN a).take q) a 0 q (by simp) hq h.ok
  rw [h.len] at h1
  have e : getE ((encN a).take q) 0 0 = 3 := by
    unfold getE rFailE
    rw [h1]
    split
    · rfl
    · rfl
  refine ⟨e, ?_⟩
  unfold getV
  rw [e, if_neg (by omega)]
end Go.Proofs.Ytpngcocmjbkfgaa
