/- For the laws: Play from nothing on, of two commands; a state loaded in a quiet region; what is known of states behind commands. No condition beyond each one's own. -/
import Derived.Test.YtahfpncfkcfogaaGs
import Derived.Test.YtahfpncfkcfogaaGp
namespace Go.Proofs.Ytahfpncfkcfogaa
set_option maxRecDepth 100000
open Go.RowKit
theorem wpQuiet_load49 {ops : Array Oper} {rest : List Oper} {d : Option Tmp} {ty : TypeId} {ps : String} {af : Array Edge} {gd : Option (Nat × Bool)} {x : Operand} {a : Act} {S : World → Prop} {Q : Act → Prop} {b : Nat} {t : TypeId} {p : Value} {L : List Co}
    (hw : Region.wanted ({ dst := d, op := .load 30 x, type := ty, pos := ps, after := af, guard := gd } : Oper) (yielded ops a.tmps) = true) (hx : a.eval x = .pointer (some ⟨b, 0, none⟩)) (hS : ∀ k : Sp S, Row k.w b t (stc p L)) (hl : L.length = 8)
    (h : wpQuiet Try.prog ops (fun w' => ∃ k : Sp S, w' = k.w) Q rest (a.put d (.agg (stc p L)))) :
    wpQuiet Try.prog ops (fun w' => ∃ k : Sp S, w' = k.w) Q ({ dst := d, op := .load 30 x, type := ty, pos := ps, after := af, guard := gd } :: rest) a := by
  unfold wpQuiet
  rw [if_pos hw]
  refine ⟨.agg (stc p L), ?_, h⟩
  rintro w ⟨k, rfl⟩
  unfold Oper.quietAt
  rw [exec_load49 (o := { dst := d, op := .load 30 x, type := ty, pos := ps, after := af, guard := gd }) rfl hx (hS k) hl]
  exact ⟨rfl, rfl⟩
theorem play0 (A : Option Addr) (c m : Nat) (cs : List Cm) (w : World) (hc : CmL w A cs) (hn : cs.length = m) (hm : m ≤ 60) :
    Calls Try.prog 11 #[.agg #[.slice none 0 0, .int .i64 0, .int .i64 0, .bool false, .string { data := #[] }, .int .i64 0, .slice none 0 0, .int .i64 0, .int .i64 0, .bool false, .string { data := #[] }, .int .i64 0, .slice none 0 0, .int .i64 0, .int .i64 0, .bool false, .string { data := #[] }, .int .i64 0, .slice none 0 0, .int .i64 0, .int .i64 0, .bool false, .string { data := #[] }, .int .i64 0, .slice none 0 0, .int .i64 0, .int .i64 0, .bool false, .string { data := #[] }, .int .i64 0, .slice none 0 0, .int .i64 0, .int .i64 0, .bool false, .string { data := #[] }, .int .i64 0, .slice none 0 0, .int .i64 0, .int .i64 0, .bool false, .string { data := #[] }, .int .i64 0, .slice none 0 0, .int .i64 0, .int .i64 0, .bool false, .string { data := #[] }, .int .i64 0, .slice none 0 0], .slice A m c] w (AnsP w (playP zeroS cs)) := by
  rw [zero_state]
  exact play_any (.slice none 0 0) zeroL zeroS A m c cs w (IsS.zero _) hc hn List.Pairwise.nil (by show 0 + m ≤ 1000; omega)
theorem play2 (p : Value) (L : List Co) (s : Sm) (x y : Cm) (w : World) (h : IsS w p L s) (hu : Up s.l) (ln : s.l.length ≤ 900) :
    Calls Try.prog 11 #[.agg (stc p L), .slice (some ⟨w.heap.size, 0, none⟩) 2 2] (w.alloc (.cells #[.int .i64 x.k, .int .i64 x.c, .int .i64 x.q, .string x.key, .string x.en, .string x.old, .string x.val, .int .i64 y.k, .int .i64 y.c, .int .i64 y.q, .string y.key, .string y.en, .string y.old, .string y.val] 35))
      (AnsP (w.alloc (.cells #[.int .i64 x.k, .int .i64 x.c, .int .i64 x.q, .string x.key, .string x.en, .string x.old, .string x.val, .int .i64 y.k, .int .i64 y.c, .int .i64 y.q, .string y.key, .string y.en, .string y.old, .string y.val] 35)) (playP s [x, y])) :=
  play_any p L s _ 2 2 [x, y] _ (h.below (kept_alloc (kept_refl w) _)) (els_row (Row.new w _ #[.int .i64 x.k, .int .i64 x.c, .int .i64 x.q, .string x.key, .string x.en, .string x.old, .string x.val, .int .i64 y.k, .int .i64 y.c, .int .i64 y.q, .string y.key, .string y.en, .string y.old, .string y.val]) (cmV_all [x, y]) rfl) rfl hu (by omega)
theorem play0_up (cs : List Cm) : Up (playP zeroS cs).1.l ∧ (playP zeroS cs).1.l.length ≤ cs.length := by
  have h := play_up cs (s := zeroS) List.Pairwise.nil
  exact ⟨h.1, by have := h.2; have e : zeroS.l.length = 0 := rfl; omega⟩
theorem play0_right (cs : List Cm) (h : cs.length ≤ 1000) : Rs (cs.length : Int) (playP zeroS cs).1 := by
  have := play_right cs Rs.zero (by omega) (by omega)
  exact this.mono (by omega)
/-- Two rows' ends. -/
theorem two_of {R : List Cr} {a b : Re} (h : R.map Cr.r = [a, b]) : ∃ x y, R = [x, y] ∧ x.r = a ∧ y.r = b := by
  match R, h with
  | [x, y], h => cases h; exact ⟨x, y, rfl, rfl, rfl⟩
end Go.Proofs.Ytahfpncfkcfogaa
/- concordbook.Same of one list of pairs, twice in memory. Conditions: the slices lie in memory, their length has room. -/
namespace Go.Proofs.Ytahfpncfkcfogaa
set_option maxRecDepth 100000
open Go.RowKit
theorem psame_below (v u : Value) (l m : List Pr) (w : World) (h : Pin w v l) (k : Pin w u m) (ln : l.length ≤ 4611686018427387904) (lm : m.length ≤ 4611686018427387904) :
    Calls Try.prog 25 #[v, u] w fun e w' => e = .returned (.bool (decide (l = m))) ∧ Below w.heap.size w w' := by
  obtain ⟨A, c, rfl, _, _, _, hl⟩ := h
  obtain ⟨B, d, rfl, _, _, _, hm⟩ := k
  exact (k_same_any A B _ _ c d l m w rfl rfl hl hm ln lm).mono fun _ _ ⟨he, q, hq⟩ => ⟨he, by subst hq; exact kept_drewN (kept_refl w) q⟩
theorem psame_same (v u : Value) (l : List Pr) (w : World) (h : Pin w v l) (k : Pin w u l) (ln : l.length ≤ 4611686018427387904) :
    Calls Try.prog 25 #[v, u] w fun e w' => e = .returned (.bool true) ∧ Below w.heap.size w w' := by
  have z := psame_below v u l l w h k ln ln
  rw [decide_eq_true rfl] at z
  exact z
end Go.Proofs.Ytahfpncfkcfogaa
