/- What package kv's Put and Delete come to. Conditions: the list lies in memory, its length has room. -/
import Derived.Test.YtjadbppcjndmlaaKv
namespace Go.Proofs.Ytjadbppcjndmlaa
open Go.RowKit
theorem Mine.mono {b0 b1 : Nat} {w : World} {v : Value} {l : List Pr} (h : Mine b1 w v l) (hb : b0 ≤ b1) : Mine b0 w v l := by
  refine ⟨h.1, h.2.imp_right ?_⟩
  rintro ⟨g, cap, cur, h1, h2, h3⟩
  exact ⟨g, cap, cur, h1, Nat.le_trans hb h2, h3⟩
theorem MadeP.of {W w : World} {l l' : List Pr} {e : Ending} {w' : World} (h : MadeP w l e w') (hb : Below W.heap.size W w) (hl : l = l') : MadeP W l' e w' := by
  subst hl
  obtain ⟨v, he, ho, hb1⟩ := h
  exact ⟨v, he, ho.mono hb.size, kept_trans hb hb1⟩
theorem prs_one (w : World) (p : Pr) (t : TypeId) : Prs (w.alloc (.cells #[.string p.k, .string p.v, .int .i64 p.n] t)) (some ⟨w.heap.size, 0, none⟩) [p] :=
  els_row (l := prV [p]) (Row.new w t _) (prV_all _) (by simp [prV, cellsV, Pr.l])
/-- Concat of three slices whose row was just laid: ahead, one, behind. -/
theorem concat3 {A : Option Addr} {n c k B : Nat} {l : List Pr} {p : Pr} {w : World} {t t' : TypeId} (hn : l.length = n) (hl : Prs w A l) (hA : A = none → c = 0) (hk : k ≤ n) (hB : B ≤ n) (hc : n ≤ c) (ln : n ≤ 3518437208780) (hkB : k ≤ B) :
    Calls Try.prog 22 #[.slice (some ⟨w.heap.size + 1, 0, none⟩) 3 3]
      ((w.alloc (.cells #[.string p.k, .string p.v, .int .i64 p.n] t)).alloc (.cells #[.slice A k c, .slice (some ⟨w.heap.size, 0, none⟩) 1 1, .slice (partV 3 A c B) (n - B) (c - B)] t')) (MadeP w (l.take k ++ (p :: l.drop B))) := by
  subst hn
  have h1 := hl.alloc (.cells #[.string p.k, .string p.v, .int .i64 p.n] t)
  have ho := prs_one w p t
  have hsz : (w.alloc (.cells #[.string p.k, .string p.v, .int .i64 p.n] t)).heap.size = w.heap.size + 1 := by simp
  have hb := kept_alloc (kept_refl w) (.cells #[.string p.k, .string p.v, .int .i64 p.n] t)
  generalize w.alloc (.cells #[.string p.k, .string p.v, .int .i64 p.n] t) = w1 at *
  have h2 := h1.alloc (.cells #[.slice A k c, .slice (some ⟨w.heap.size, 0, none⟩) 1 1, .slice (partV 3 A c B) (l.length - B) (c - B)] t')
  have ho2 := ho.alloc (.cells #[.slice A k c, .slice (some ⟨w.heap.size, 0, none⟩) 1 1, .slice (partV 3 A c B) (l.length - B) (c - B)] t')
  have hR := Row.new w1 t' #[.slice A k c, .slice (some ⟨w.heap.size, 0, none⟩) 1 1, .slice (partV 3 A c B) (l.length - B) (c - B)]
  have hb2 := kept_alloc hb (.cells #[.slice A k c, .slice (some ⟨w.heap.size, 0, none⟩) 1 1, .slice (partV 3 A c B) (l.length - B) (c - B)] t')
  have hlt := hR.lt
  rw [hsz] at hR hlt
  generalize w1.alloc (.cells #[.slice A k c, .slice (some ⟨w.heap.size, 0, none⟩) 1 1, .slice (partV 3 A c B) (l.length - B) (c - B)] t') = w2 at *
  have e : catP [⟨A, k, c, l.take k⟩, ⟨some ⟨w.heap.size, 0, none⟩, 1, 1, [p]⟩, ⟨partV 3 A c B, l.length - B, c - B, l.drop B⟩] 3 = l.take k ++ (p :: l.drop B) := by
    unfold catP; simp
  refine (concat_any (w.heap.size + 1) 3 [⟨A, k, c, l.take k⟩, ⟨some ⟨w.heap.size, 0, none⟩, 1, 1, [p]⟩, ⟨partV 3 A c B, l.length - B, c - B, l.drop B⟩] w2 rfl (by omega) ?_ ?_ hlt ?_).mono fun _ _ h => h.of hb2 e
  · intro j s hs
    match j with
    | 0 => simp at hs; subst hs; exact ⟨by show (l.take k).length = k; rw [List.length_take]; omega, hA, h2.take k⟩
    | 1 => simp at hs; subst hs; exact ⟨rfl, (fun h => by cases h), ho2⟩
    | 2 => simp at hs; subst hs; exact ⟨by show (l.drop B).length = _; rw [List.length_drop], fun h => partV_none hA h, h2.rest hc B⟩
    | j + 3 => simp at hs
  · intro j s hs
    match j with
    | 0 => simp at hs; subst hs; exact hR.cell 0
    | 1 => simp at hs; subst hs; exact hR.cell 1
    | 2 => simp at hs; subst hs; exact hR.cell 2
    | j + 3 => simp at hs
  · rw [e, List.length_append, List.length_cons, List.length_take, List.length_drop]; omega
theorem concat2 {A : Option Addr} {n c k B : Nat} {l : List Pr} {w : World} {t' : TypeId} (hn : l.length = n) (hl : Prs w A l) (hA : A = none → c = 0) (hk : k ≤ n) (hB : B ≤ n) (hc : n ≤ c) (ln : n ≤ 3518437208780) (hkB : k ≤ B) :
    Calls Try.prog 22 #[.slice (some ⟨w.heap.size, 0, none⟩) 2 2]
      (w.alloc (.cells #[.slice A k c, .slice (partV 3 A c B) (n - B) (c - B)] t')) (MadeP w (l.take k ++ l.drop B)) := by
  subst hn
  have h2 := hl.alloc (.cells #[.slice A k c, .slice (partV 3 A c B) (l.length - B) (c - B)] t')
  have hR := Row.new w t' #[.slice A k c, .slice (partV 3 A c B) (l.length - B) (c - B)]
  have hb2 := kept_alloc (kept_refl w) (.cells #[.slice A k c, .slice (partV 3 A c B) (l.length - B) (c - B)] t')
  have hlt := hR.lt
  generalize w.alloc (.cells #[.slice A k c, .slice (partV 3 A c B) (l.length - B) (c - B)] t') = w2 at *
  have e : catP [⟨A, k, c, l.take k⟩, ⟨partV 3 A c B, l.length - B, c - B, l.drop B⟩] 2 = l.take k ++ l.drop B := by
    unfold catP; simp
  refine (concat_any w.heap.size 2 [⟨A, k, c, l.take k⟩, ⟨partV 3 A c B, l.length - B, c - B, l.drop B⟩] w2 rfl (by omega) ?_ ?_ hlt ?_).mono fun _ _ h => h.of hb2 e
  · intro j s hs
    match j with
    | 0 => simp at hs; subst hs; exact ⟨by show (l.take k).length = k; rw [List.length_take]; omega, hA, h2.take k⟩
    | 1 => simp at hs; subst hs; exact ⟨by show (l.drop B).length = _; rw [List.length_drop], fun h => partV_none hA h, h2.rest hc B⟩
    | j + 2 => simp at hs
  · intro j s hs
    match j with
    | 0 => simp at hs; subst hs; exact hR.cell 0
    | 1 => simp at hs; subst hs; exact hR.cell 1
    | j + 2 => simp at hs
  · rw [e, List.length_append, List.length_take, List.length_drop]; omega
theorem concat1 {A : Option Addr} {n c : Nat} {l : List Pr} {w : World} {t' : TypeId} (hn : l.length = n) (hl : Prs w A l) (hA : A = none → c = 0) (ln : n ≤ 3518437208780) :
    Calls Try.prog 22 #[.slice (some ⟨w.heap.size, 0, none⟩) 1 1]
      (w.alloc (.cells #[.slice A n c] t')) (MadeP w l) := by
  subst hn
  have h2 := hl.alloc (.cells #[.slice A l.length c] t')
  have hR := Row.new w t' #[.slice A l.length c]
  have hb2 := kept_alloc (kept_refl w) (.cells #[.slice A l.length c] t')
  have hlt := hR.lt
  generalize w.alloc (.cells #[.slice A l.length c] t') = w2 at *
  have e : catP [⟨A, l.length, c, l⟩] 1 = l := by unfold catP; simp
  refine (concat_any w.heap.size 1 [⟨A, l.length, c, l⟩] w2 rfl (by omega) ?_ ?_ hlt ?_).mono fun _ _ h => h.of hb2 e
  · intro j s hs
    match j with
    | 0 => simp at hs; subst hs; exact ⟨rfl, hA, h2⟩
    | j + 1 => simp at hs
  · intro j s hs
    match j with
    | 0 => simp at hs; subst hs; exact hR.cell 0
    | j + 1 => simp at hs
  · rw [e]; omega
end Go.Proofs.Ytjadbppcjndmlaa
