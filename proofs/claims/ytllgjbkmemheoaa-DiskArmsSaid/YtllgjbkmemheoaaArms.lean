/- What the law on armed changes comes to, in plain words, and what it holds on to. No condition. -/
import Derived.Test.YtllgjbkmemheoaaCalls
import Derived.Test.YtllgjbkmemheoaaArgs
import Derived.Test.YtllgjbkmemheoaaWithin
namespace Go.Proofs.Ytllgjbkmemheoaa
open Go.RowKit Go.Maps
def d00 : DS := newS 1048576
def nF : ByteArray := ⟨#[102]⟩
def nG : ByteArray := ⟨#[103]⟩
theorem okF : nameB nF = true := by decide
theorem okG : nameB nG = true := by decide
def flA (i : Nat) (a : List Int) : List Fl := if i = 0 then [] else [⟨nF, a, 0⟩]
def stA (k i : Nat) (a : List Int) : DS := ⟨1048576, flA (min i k) a, if i ≤ k then ((k - i : Nat) : Int) else 0, decide (k < i)⟩
/-- What came in the first i rounds, cut to 50. -/
def acc (it : Nat → Sb) : Nat → List Int
  | 0 => []
  | i + 1 => acc it i ++ (it i).zs.take 50
theorem acc_len (it : Nat → Sb) : ∀ i, (acc it i).length ≤ 50 * i
  | 0 => Nat.le_refl _
  | i + 1 => by
    have := acc_len it i
    simp only [acc, List.length_append, List.length_take]
    omega
theorem total_flA (i : Nat) (a : List Int) : total (flA i a) ≤ a.length := by unfold flA; split <;> simp [total]
theorem st0 (k : Nat) : armS d00 k = stA k 0 [] := by
  unfold armS d00 newS stA flA
  simp only [Nat.zero_le, if_true, Nat.sub_zero, Nat.not_lt_zero, decide_false, Nat.zero_min]
  congr 1; omega
theorem st1 {k i : Nat} {a p : List Int} (h : i < k) (ha : a.length ≤ 1500) (hp : p.length ≤ 50) (h0 : i = 0 → a = []) : appE (stA k i a) nF p = 0 ∧ appS (stA k i a) nF p = stA k (i + 1) (a ++ p) := by
  have ht := total_flA (min i k) a
  have hoff : (stA k i a).off = false := by unfold stA; simp; omega
  have hleft : (stA k i a).left = ((k - i : Nat) : Int) := by unfold stA; simp only; rw [if_pos (by omega)]
  have hl0 : ¬ ((k - i : Nat) : Int) = 0 := by omega
  have hq : ¬ (1048576 : Int) < (total (stA k i a).l : Int) + p.length := by show ¬ (1048576 : Int) < (total (flA (min i k) a) : Int) + p.length; omega
  have hd : datO (find nF (stA k i a).l) = a ∧ kepO (find nF (stA k i a).l) = 0 := by
    show datO (find nF (flA (min i k) a)) = a ∧ kepO (find nF (flA (min i k) a)) = 0
    unfold flA
    split
    · rw [h0 (by omega)]; exact ⟨rfl, rfl⟩
    · rw [show find nF [⟨nF, a, 0⟩] = some ⟨nF, a, 0⟩ by simp [find]]; exact ⟨rfl, rfl⟩
  have hpt : ∀ x : Fl, x.nm = nF → putF x (stA k i a).l = [x] := fun x hx => by
    show putF x (flA (min i k) a) = [x]
    unfold flA
    split
    · rfl
    · exact putF_same [] hx.symm
  constructor
  · unfold appE; rw [hoff, okF, hleft, show (stA k i a).q = 1048576 from rfl]; simp [hq]; omega
  · unfold appS
    rw [hoff, okF, hleft, show (stA k i a).q = 1048576 from rfl, hd.1, hd.2, hpt _ rfl]
    simp only [hq, hl0, Bool.false_eq_true, if_false, reduceCtorEq]
    unfold DS.spent
    rw [hleft, if_neg hl0, if_pos (by omega)]
    unfold stA flA
    simp only
    rw [if_pos (by omega : i + 1 ≤ k), if_neg (by omega : ¬ min (i + 1) k = 0)]
    congr 1
    · omega
    · simp; omega
theorem st2 {k i : Nat} {a p : List Int} (h : k ≤ i) (ha : a.length ≤ 1500) (hp : p.length ≤ 50) : appE (stA k i a) nF p = 10 ∧ appS (stA k i a) nF p = stA k (i + 1) a := by
  by_cases hik : i = k
  · subst hik
    have ht := total_flA (min i i) a
    have hoff : (stA i i a).off = false := by unfold stA; simp
    have hleft : (stA i i a).left = 0 := by unfold stA; simp
    have hq : ¬ (1048576 : Int) < (total (stA i i a).l : Int) + p.length := by show ¬ (1048576 : Int) < (total (flA (min i i) a) : Int) + p.length; omega
    constructor
    · unfold appE; rw [hoff, okF, hleft, show (stA i i a).q = 1048576 from rfl]; simp [hq]
    · unfold appS
      rw [hoff, okF, hleft, show (stA i i a).q = 1048576 from rfl]
      simp only [hq, Bool.false_eq_true, if_false, reduceCtorEq, if_true]
      unfold DS.spent
      rw [hleft, if_pos rfl]
      unfold stA
      simp
  · have hoff : (stA k i a).off = true := by unfold stA; simp; omega
    constructor
    · unfold appE; rw [hoff]; rfl
    · unfold appS; rw [hoff]
      simp only [if_true]
      unfold stA
      rw [if_neg (by omega), if_neg (by omega), show min i k = min (i + 1) k by omega]
      congr 1
      simp; omega
theorem st_off (k i : Nat) (a : List Int) : (stA k i a).off = decide (k < i) := rfl
theorem st_len (k i : Nat) (a : List Int) : (stA k i a).l.length ≤ 1 := by
  show (flA (min i k) a).length ≤ 1
  unfold flA; split <;> simp
/-- What is read behind the rounds. -/
theorem st_find {k i : Nat} {a : List Int} (h0 : min i k = 0 → a = []) : datO (find nF (stA k i a).l) = a := by
  show datO (find nF (flA (min i k) a)) = a
  unfold flA
  split
  · rename_i h; rw [h0 h]; rfl
  · rw [show find nF [⟨nF, a, 0⟩] = some ⟨nF, a, 0⟩ by simp [find]]; rfl
/-- Behind the crash. -/
theorem st_crash (k i : Nat) (a : List Int) : datO (find nF (craS (stA k i a) []).l) = [] ∧ (craS (stA k i a) []).off = false ∧ appE (craS (stA k i a) []) nG [] = 0 ∧ (craS (stA k i a) []).l.length ≤ 1 := by
  have e : (craS (stA k i a) []).l = if min i k = 0 then [] else [⟨nF, [], 0⟩] := by
    show tears [] 0 (flA (min i k) a) = _
    unfold flA
    split
    · rfl
    · simp [tears, tear, pickAt]
  have hr : appE (craS (stA k i a) []) nG [] = if (1048576 : Int) < (total (craS (stA k i a) []).l : Int) then 7 else 0 := by
    unfold appE
    rw [okG, show (craS (stA k i a) []).off = false from rfl, show (craS (stA k i a) []).left = -1 from rfl, show (craS (stA k i a) []).q = 1048576 from rfl]
    simp
  rw [hr, e]
  refine ⟨?_, rfl, ?_, ?_⟩ <;> split <;> simp [find, datO, total]
end Go.Proofs.Ytllgjbkmemheoaa
