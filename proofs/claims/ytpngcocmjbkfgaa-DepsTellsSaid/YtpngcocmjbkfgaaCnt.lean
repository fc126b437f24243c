/- A map that counts attributes; which stands there most often. Condition: it has room. -/
import Derived.Test.YtpngcocmjbkfgaaKey8
import Derived.Test.YtpngcocmjbkfgaaBump
import Derived.Test.YtpngcocmjbkfgaaJoinc
import Derived.RegionTactic
namespace Go.Proofs.Ytpngcocmjbkfgaa
open Go.RowKit Go.Maps
theorem klaw : WideMaps.KeyLaw Try.prog 25 := deep_law_laid laidOut (m := 3) (by omega) (of_decide_eq_true (by kernel_rfl)) (by kernel_rfl) (by rw [Try.underlying25])
theorem zero_int (w : World) : (zeroValue 3).run Try.prog w = .ok (.int .i64 0) w := by kernel_rfl
/-- Block b is a map that counts the attributes of l. -/
def Cnt (w : World) (b : Nat) (l : List (List Int)) : Prop :=
  ∃ D : DataW Unit, w.ownsMap Try.prog 25 (plainElem Try.prog 3) b l.length D ∧ ∀ x, Ok8 x → D.atKey (kl x) (.lit (.int .i64 0)) = .lit (.int .i64 (l.count x))
section
variable {w w' : World} {b : Nat} {l : List (List Int)}
theorem Cnt.lt (h : Cnt w b l) : b < w.heap.size := by obtain ⟨D, hD, _⟩ := h; exact hD.lt
theorem Cnt.grown {row : Option Nat} (h : Cnt w b l) (hg : w.grownBy w' row) (h1 : some b ≠ row) : Cnt w' b l := by
  obtain ⟨D, hD, hm⟩ := h
  exact ⟨D, hD.kept hg h1, hm⟩
theorem Cnt.below (h : Cnt w b l) (hb : Below w.heap.size w w') : Cnt w' b l := h.grown (grown_below hb) (by simp)
theorem Cnt.alloc (h : Cnt w b l) (o : Obj) : Cnt (w.alloc o) b l := h.grown (World.grownBy_alloc w o none) (by simp)
theorem Cnt.drew (h : Cnt w b l) : Cnt w.drew b l := h
theorem Cnt.new (w : World) : Cnt (w.alloc (.map #[] 0)) w.heap.size [] := ⟨.map [], World.ownsMap_made w _ _ _, fun _ _ => rfl⟩
theorem wf_nat {n : Nat} (h : n ≤ 9223372036854775807) : (Lit.int .i64 (n : Int)).wf = true := wf_i64.2 (by unfold I64; omega)
theorem lit_inj {a b : Int} (h : (DataW.lit (.int .i64 a) : DataW Unit) = .lit (.int .i64 b)) : a = b := by
  injection h with e
  injection e
theorem Cnt.look (h : Cnt w b l) {x0 x1 x2 x3 x4 x5 x6 x7 : Int} (hx : Ok8 [x0, x1, x2, x3, x4, x5, x6, x7]) : (Instr.lookup 59 (.map (some b)) (.agg #[.int .i64 x0, .int .i64 x1, .int .i64 x2, .int .i64 x3, .int .i64 x4, .int .i64 x5, .int .i64 x6, .int .i64 x7]) false).run Try.prog w = .ok (.int .i64 (l.count [x0, x1, x2, x3, x4, x5, x6, x7])) w := by
  obtain ⟨D, hD, hm⟩ := h
  obtain ⟨c, hr, hat, _⟩ := hD.lookup_int law Try.underlying59 Try.underlying3 (zero_int w) (key_of x0 x1 x2 x3 x4 x5 x6 x7 hx.ok)
  have e := hm _ hx
  rw [hat] at e
  injection e with e
  injection e with _ e
  rw [hr, e]
theorem count_snoc (l : List (List Int)) (x y : List Int) : (l ++ [x]).count y = l.count y + (if x = y then 1 else 0) := by
  rw [List.count_append, List.count_singleton]
  simp [beq_iff_eq]
/-- 'm[x]++', in whatever order. -/
theorem Cnt.bump (h : Cnt w b l) {x0 x1 x2 x3 x4 x5 x6 x7 : Int} (hx : Ok8 [x0, x1, x2, x3, x4, x5, x6, x7]) (hl : l.length ≤ 1000000000) :
    ∃ (v0 : Value) (st : Nat) (w1 w2 : World), (Instr.mapEntry 59 (.map (some b)) (.agg #[.int .i64 x0, .int .i64 x1, .int .i64 x2, .int .i64 x3, .int .i64 x4, .int .i64 x5, .int .i64 x6, .int .i64 x7])).run Try.prog w = .ok (.tuple #[v0, .int .i64 st]) w1 ∧ w.grownBy w1 (some b) ∧
      (Instr.lookup 59 (.map (some b)) (.agg #[.int .i64 x0, .int .i64 x1, .int .i64 x2, .int .i64 x3, .int .i64 x4, .int .i64 x5, .int .i64 x6, .int .i64 x7]) false).run Try.prog w1 = .ok (.int .i64 (l.count [x0, x1, x2, x3, x4, x5, x6, x7])) w1 ∧
      (Instr.entryStore 59 (.map (some b)) (.int .i64 st) (.int .i64 (l.count [x0, x1, x2, x3, x4, x5, x6, x7] + 1))).run Try.prog w1 = .ok () w2 ∧ Cnt w2 b (l ++ [[x0, x1, x2, x3, x4, x5, x6, x7]]) ∧ w.grownBy w2 (some b) := by
  obtain ⟨D, hD, hm⟩ := h
  have hk := key_of x0 x1 x2 x3 x4 x5 x6 x7 hx.ok
  have hlen := List.count_le_length (a := [x0, x1, x2, x3, x4, x5, x6, x7]) (l := l)
  obtain ⟨v0, st, w1, hr, hg, ho, hs⟩ := entry_own klaw law Try.underlying59 Try.underlying3 zero_int hD (by unfold maxLen; omega) hk
  obtain ⟨w2, hr2, ho2, hg2⟩ := hs (l.count [x0, x1, x2, x3, x4, x5, x6, x7] + 1) (by have := wf_nat (n := l.count [x0, x1, x2, x3, x4, x5, x6, x7] + 1) (by omega); simpa using this)
  have hc2 : Cnt w2 b (l ++ [[x0, x1, x2, x3, x4, x5, x6, x7]]) := by
    refine ⟨_, by rw [List.length_append]; exact ho2, fun y hy => ?_⟩
    rw [count_snoc]
    by_cases e : [x0, x1, x2, x3, x4, x5, x6, x7] = y
    · subst e
      rw [atKey_put_same hD.isMap (kl_key _)]
      simp
    · rw [atKey_put_other (fun k => e (kl_inj hx hy k.symm)), hm y hy]
      simp [e]
  refine ⟨v0, st, w1, w2, hr, hg, ?_, hr2, hc2, hg2⟩
  · have hc : Cnt w1 b l ∨ ∃ D' : DataW Unit, w1.ownsMap Try.prog 25 (plainElem Try.prog 3) b (l.length + 1) D' ∧ D'.atKey (kl [x0, x1, x2, x3, x4, x5, x6, x7]) (.lit (.int .i64 0)) = .lit (.int .i64 (l.count [x0, x1, x2, x3, x4, x5, x6, x7])) := by
      rcases ho with ho | ⟨ho, h0⟩
      · exact .inr ⟨D, ho, hm _ hx⟩
      · refine .inr ⟨_, ho, ?_⟩
        rw [atKey_put_same hD.isMap (kl_key _), ← h0, hm _ hx]
    rcases hc with hc | ⟨D', ho', hat'⟩
    · exact hc.look hx
    · obtain ⟨c, hr3, hat, _⟩ := ho'.lookup_int law Try.underlying59 Try.underlying3 (zero_int w1) hk
      rw [hr3, lit_inj (hat.symm.trans hat')]
end
/-- Which stands there most often, as far as it was looked; how often. -/
def mostStep (l : List (List Int)) (s : List Int × Nat) (x : List Int) : List Int × Nat := if s.2 < l.count x then (x, l.count x) else s
def mostTo (l : List (List Int)) (k : Nat) : List Int × Nat := (l.take k).foldl (mostStep l) (zero8, 0)
def mostA (l : List (List Int)) : List Int × Nat := l.foldl (mostStep l) (zero8, 0)
theorem mostTo_all (l : List (List Int)) : mostTo l l.length = mostA l := by unfold mostTo mostA; rw [List.take_length]
theorem mostTo_succ {l : List (List Int)} {k : Nat} {x : List Int} (h : l[k]? = some x) : mostTo l (k + 1) = mostStep l (mostTo l k) x := by
  unfold mostTo; rw [take_snoc h, List.foldl_append]; rfl
theorem mostTo_len {l : List (List Int)} (h : All 8 l) : ∀ k, (mostTo l k).1.length = 8 ∧ (mostTo l k).2 ≤ l.length
  | 0 => ⟨rfl, Nat.zero_le _⟩
  | k + 1 => by
    have ih := mostTo_len h k
    rcases Nat.lt_or_ge k l.length with h1 | h1
    · rw [mostTo_succ (List.getElem?_eq_getElem h1)]
      unfold mostStep
      split
      · exact ⟨h _ (List.getElem_mem h1), List.count_le_length⟩
      · exact ih
    · unfold mostTo at ih ⊢
      rw [List.take_of_length_le h1] at ih
      rw [List.take_of_length_le (by omega)]
      exact ih
end Go.Proofs.Ytpngcocmjbkfgaa
