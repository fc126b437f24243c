/- What FrameBack holds on to between two rounds. No condition. -/
import Derived.Test.YtdmfblobmahfbaaSeq
import Derived.Test.YtdmfblobmahfbaaScn
import Derived.Test.YtdmfblobmahfbaaPts
namespace Go.Proofs.Ytdmfblobmahfbaa
open Go.RowKit
theorem Try.info3 : (Try.prog.info? 3).map (fun i => (i.zero, i.size, i.bytes)) = some (some (.int .i64 0), 1, 8) := by kernel_rfl
/-- Two own rows of unlike elements are two blocks. -/
theorem own_apart {B : Nat} {v u : Value} {n m k l : Nat} {e f : TypeId} {xs ys : List Value} {w : World} (hne : e ≠ f) (h : w.ownsRow B e k v n xs) (g : w.ownsRow B f l u m ys) : v.ownBlock = none ∨ v.ownBlock ≠ u.ownBlock := by
  rcases h.2 with ⟨rfl, _⟩ | ⟨i, cap, cur, rfl, _, hh, _⟩
  · exact .inl rfl
  · refine .inr ?_
    rcases g.2 with ⟨rfl, _⟩ | ⟨i', cap', cur', rfl, _, gh, _⟩
    · intro hc; cases hc
    · intro hc
      injection hc with hc
      simp only at hc
      subst hc
      rw [gh] at hh
      injection hh with hh
      injection hh with _ h2
      exact hne h2.symm
/-- Where each frame ends. -/
def ends (F : List (List Int)) : List Int := (List.range F.length).map fun j => ((enc (F.take (j + 1))).length : Int)
theorem length_ends (F : List (List Int)) : (ends F).length = F.length := by unfold ends; rw [List.length_map, List.length_range]
theorem ends_at (F : List (List Int)) {j : Nat} (h : j < F.length) : (ends F)[j]? = some ((enc (F.take (j + 1))).length : Int) := by
  unfold ends; rw [List.getElem?_map, List.getElem?_range h]; rfl
theorem ends_more (F : List (List Int)) (p : List Int) : ends (F ++ [p]) = ends F ++ [((enc (F ++ [p])).length : Int)] := by
  apply List.ext_getElem?
  intro j
  by_cases h : j < F.length
  · rw [List.getElem?_append_left (by rw [length_ends]; exact h), ends_at F h, ends_at _ (by rw [List.length_append]; omega), List.take_append_of_le_length (by omega)]
  · by_cases h2 : j = F.length
    · subst h2
      rw [ends_at _ (by rw [List.length_append]; simp), List.getElem?_append_right (by rw [length_ends]; omega), length_ends, Nat.sub_self, List.take_of_length_le (by rw [List.length_append]; simp)]
      rfl
    · rw [List.getElem?_eq_none (by rw [length_ends, List.length_append]; simp; omega), List.getElem?_eq_none (by rw [List.length_append, length_ends]; simp; omega)]
theorem enc_le : ∀ {F : List (List Int)}, Right F → (enc F).length ≤ 16390 * F.length
  | [], _ => by rw [enc_nil]; simp
  | p :: F, h => by
    rw [enc_cons, List.length_append, length_frm, List.length_cons]
    have h1 := (h p List.mem_cons_self).1.2
    have h2 := enc_le (F := F) fun q hq => h q (List.mem_cons_of_mem _ hq)
    omega
def i64s (l : List Int) : List Value := l.map (Value.int .i64)
structure Held (W w : World) (bv ev kv : Value) (F : List (List Int)) (vs : List Value) : Prop where
  b : w.ownsRow W.heap.size 5 1 bv (enc F).length (cellsOf (enc F))
  e : w.ownsRow W.heap.size 3 1 ev F.length (i64s (ends F))
  k : w.ownsRow W.heap.size 22 1 kv F.length vs
  in_ : ∀ (j : Nat) (p : List Int), F[j]? = some p → ∃ A c, vs[j]? = some (Value.slice A p.length c) ∧ Lies W A p
  right : Right F
  old : Below W.heap.size W w
theorem Held.start (W : World) : Held W W (.slice none 0 0) (.slice none 0 0) (.slice none 0 0) [] [] :=
  ⟨World.ownsRow_nil _ _ _ _, World.ownsRow_nil _ _ _ _, World.ownsRow_nil _ _ _ _, fun j p hj => by simp at hj, fun p hp => (by cases hp), Below.refl _ _⟩
section
variable {W w w1 w3 w5 : World} {bv ev kv b1 v3 v5 : Value} {F : List (List Int)} {vs : List Value}
theorem Held.put (h : Held W w bv ev kv F vs) (o1 : w1.ownsRow w.heap.size 5 1 b1 (enc F).length (cellsOf (enc F))) (k1 : Below w.heap.size w w1) : Held W w1 b1 ev kv F vs :=
  ⟨own_mono o1 h.old.size, own_below h.e k1, own_below h.k k1, h.in_, h.right, h.old.trans (k1.mono h.old.size)⟩
theorem Held.mid {c2 : Obj} (h : Held W w bv ev kv F vs) (k1 : Below w.heap.size w w1) (g3 : (w1.alloc c2).grownBy w3 ev.ownBlock) : (∀ c4, (w3.alloc c4).ownsRow W.heap.size 22 1 kv F.length vs) ∧ Below W.heap.size W w3 := by
  have hs := h.old.size
  have e2 := (own_below h.e k1).alloc c2
  have k2 := (own_below h.k k1).alloc c2
  have k3 := k2.kept g3 (own_apart (by decide) k2 e2)
  have old2 := (h.old.trans (k1.mono hs)).alloc (Nat.le_trans hs k1.size) c2
  exact ⟨fun c4 => k3.alloc c4, old2.grown g3 old2.size (fun k hk => (e2.lt k hk).1)⟩
theorem Held.shape (h : Held W w bv ev kv F vs) : ∃ A c, ev = .slice A F.length c ∧ ∀ j, j < F.length → ∃ g, A = some ⟨g, 0, none⟩ ∧ F.length ≤ c ∧ g < w.heap.size ∧ w.cell? ⟨g, j, none⟩ = some (.int .i64 ((enc (F.take (j + 1))).length : Int)) := by
  rcases h.e.2 with ⟨hv, hx⟩ | ⟨g, cap, cur, hv, hb, hh, hnc, _⟩
  · have h0 : F.length = 0 := by have := h.e.1; rw [hx] at this; simp at this; omega
    exact ⟨none, 0, by rw [hv, h0], fun j hj => absurd hj (by omega)⟩
  · have ho := h.e
    subst hv
    refine ⟨some ⟨g, 0, none⟩, cap, rfl, fun j hj => ⟨g, rfl, hnc, (ho.lt g rfl).2, ?_⟩⟩
    rw [ho.cellAt j (by omega)]
    unfold i64s
    rw [List.getElem?_map, ends_at F hj]; rfl
theorem Held.more {ps : List Int} {pA : Option Addr} {pc M : Nat} {c2 c4 : Obj} (h : Held W w bv ev kv F vs) (hp : May ps.length) (op : Octets ps) (pl : Lies W pA ps) (hM : (enc (F ++ [ps])).length = M)
    (o1 : w1.ownsRow w.heap.size 5 1 b1 M (cellsOf (enc (F ++ [ps])))) (k1 : Below w.heap.size w w1)
    (o3 : w3.ownsRow W.heap.size 3 1 v3 (F.length + 1) (i64s (ends F) ++ [.int .i64 (M : Int)])) (g3 : (w1.alloc c2).grownBy w3 ev.ownBlock)
    (o5 : w5.ownsRow W.heap.size 22 1 v5 (F.length + 1) (vs ++ [.slice pA ps.length pc])) (g5 : (w3.alloc c4).grownBy w5 kv.ownBlock) : Held W w5 b1 v3 v5 (F ++ [ps]) (vs ++ [.slice pA ps.length pc]) := by
  have hs := h.old.size
  have e2 := (own_below h.e k1).alloc c2
  have k2 := (own_below h.k k1).alloc c2
  have b2 := (own_mono o1 hs).alloc c2
  have b3 := b2.kept g3 (own_apart (by decide) b2 e2)
  have k3 := k2.kept g3 (own_apart (by decide) k2 e2)
  have k4 := k3.alloc c4
  have b4 := b3.alloc c4
  have e4 := o3.alloc c4
  have old2 := (h.old.trans (k1.mono hs)).alloc (Nat.le_trans hs k1.size) c2
  have old3 := old2.grown g3 old2.size (fun k hk => (e2.lt k hk).1)
  have old4 := old3.alloc old3.size c4
  refine ⟨?_, ?_, by rw [List.length_append]; exact o5, fun j q hj => ?_, fun q hq => ?_, old4.grown g5 old4.size (fun k hk => (k4.lt k hk).1)⟩
  · rw [hM]
    exact b4.kept g5 (own_apart (by decide) b4 k4)
  · rw [List.length_append, ends_more, hM]
    unfold i64s at *
    rw [List.map_append]
    exact e4.kept g5 (own_apart (by decide) e4 k4)
  · have hvl : vs.length = F.length := by have := h.k.1; omega
    by_cases hlt : j < F.length
    · rw [List.getElem?_append_left hlt] at hj
      obtain ⟨A', c', e, hz⟩ := h.in_ j q hj
      exact ⟨A', c', by rw [List.getElem?_append_left (by omega)]; exact e, hz⟩
    · have hj0 : j = F.length := by
        rcases Nat.lt_or_ge j (F ++ [ps]).length with h1 | h1
        · rw [List.length_append] at h1; simp at h1; omega
        · rw [List.getElem?_eq_none h1] at hj; cases hj
      subst hj0
      rw [List.getElem?_append_right (Nat.le_refl _), Nat.sub_self] at hj
      simp at hj
      subst hj
      exact ⟨pA, pc, by rw [List.getElem?_append_right (by omega)]; simp [hvl], pl⟩
  · rcases List.mem_append.1 hq with h1 | h1
    · exact h.right q h1
    · rw [List.mem_singleton] at h1; subst h1; exact ⟨hp, op⟩
end
/-- Where the kept payloads lie. -/
theorem Held.parts {W w : World} {bv ev kv : Value} {F : List (List Int)} {vs : List Value} (h : Held W w bv ev kv F vs) : ∃ A c, kv = .slice A F.length c ∧ F.length ≤ c ∧ PartsL w A F := by
  rcases h.k.2 with ⟨hv, hx⟩ | ⟨g, cap, cur, hv, hb, hh, hnc, _⟩
  · have h0 : F.length = 0 := by have := h.k.1; rw [hx] at this; simp at this; omega
    have h1 : F = [] := List.eq_nil_of_length_eq_zero h0
    subst h1
    exact ⟨none, 0, hv, Nat.le_refl _, fun j p hj => by simp at hj⟩
  · have ho := h.k
    subst hv
    refine ⟨some ⟨g, 0, none⟩, cap, rfl, hnc, fun j p hj => ?_⟩
    have hjl : j < F.length := by
      rcases Nat.lt_or_ge j F.length with h1 | h1
      · exact h1
      · rw [List.getElem?_eq_none h1] at hj; cases hj
    obtain ⟨A', c', e, hz⟩ := h.in_ j p hj
    refine ⟨g, 0, rfl, ?_, A', c', ?_, hz.below h.old⟩
    · rcases Nat.lt_or_ge g w.heap.size with h1 | h1
      · exact h1
      · rw [Array.getElem?_eq_none h1] at hh; cases hh
    · rw [Nat.zero_add, ho.cellAt j (by omega)]; exact e
/-- How many frames are whole. -/
theorem whole_ (F : List (List Int)) (K : Nat) : ∃ J, J ≤ F.length ∧ (enc (F.take J)).length ≤ K ∧ (J < F.length → K < (enc (F.take (J + 1))).length) := by
  have h : ∀ m, m ≤ F.length → (∃ J, J ≤ F.length ∧ (enc (F.take J)).length ≤ K ∧ (J < F.length → K < (enc (F.take (J + 1))).length)) ∨ (enc (F.take m)).length ≤ K := by
    intro m
    induction m with
    | zero => intro _; exact .inr (by rw [List.take_zero, enc_nil]; exact Nat.zero_le _)
    | succ m ih =>
      intro hm
      rcases ih (by omega) with h | h
      · exact .inl h
      · by_cases h2 : (enc (F.take (m + 1))).length ≤ K
        · exact .inr h2
        · exact .inl ⟨m, by omega, h, fun _ => by omega⟩
  rcases h F.length (Nat.le_refl _) with h | h
  · exact h
  · exact ⟨F.length, Nat.le_refl _, h, fun h2 => absurd h2 (by omega)⟩
theorem take_mono (F : List (List Int)) {i j : Nat} (h : i ≤ j) : (enc (F.take i)).length ≤ (enc (F.take j)).length := by
  have e : F.take j = F.take i ++ (F.take j).drop i := by
    have h1 : (F.take j).take i = F.take i := by rw [List.take_take, Nat.min_eq_left h]
    rw [← h1, List.take_append_drop]
  rw [e, enc_append, List.length_append]; omega
/-- What is found of frames that are cut off. -/
theorem cut_found {F : List (List Int)} (hR : Right F) {K J : Nat} (hJ : J ≤ F.length) (hle : (enc (F.take J)).length ≤ K) (hlt : J < F.length → K < (enc (F.take (J + 1))).length) :
    Upto ((enc F).take K) J ∧ plc ((enc F).take K) J = (enc (F.take J)).length ∧ pays ((enc F).take K) J = F.take J := by
  have hRt : Right (F.take J) := fun p hp => hR p (List.mem_of_mem_take hp)
  have hlen : (F.take J).length = J := by rw [List.length_take]; omega
  by_cases h : J < F.length
  · have h1 := hlt h
    have hd : F.drop J = F[J] :: F.drop (J + 1) := List.drop_eq_getElem_cons h
    have ht : F.take (J + 1) = F.take J ++ [F[J]] := (List.take_append_getElem h).symm
    rw [ht, enc_append, enc_one, List.length_append] at h1
    have he : enc F = enc (F.take J) ++ (frm F[J] ++ enc (F.drop (J + 1))) := by
      rw [← enc_cons, ← hd, ← enc_append, List.take_append_drop]
    have hk : (enc F).take K = enc (F.take J) ++ (frm F[J]).take (K - (enc (F.take J)).length) := by
      rw [he, List.take_append, List.take_of_length_le hle, List.take_append_of_le_length (by omega)]
    have hu := enc_upto hRt (nxE_cut (p := F[J]) (hR _ (List.getElem_mem h)).1 (k := K - (enc (F.take J)).length) (by omega))
    rw [← hk, hlen] at hu
    exact hu
  · obtain rfl : J = F.length := by omega
    rw [List.take_length] at hle ⊢
    have hk : (enc F).take K = enc F ++ [] := by rw [List.append_nil, List.take_of_length_le (by omega)]
    have hu := enc_upto (r := []) hR nxE_nil
    rw [← hk] at hu
    exact hu
end Go.Proofs.Ytdmfblobmahfbaa
