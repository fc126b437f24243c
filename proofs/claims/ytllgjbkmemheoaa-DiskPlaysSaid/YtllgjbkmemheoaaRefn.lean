/- What turns in the document's disk: its slice anew, a cell of it. No condition. -/
import Derived.Test.YtllgjbkmemheoaaRefm
import Derived.Test.YtllgjbkmemheoaaRefp
namespace Go.Proofs.Ytllgjbkmemheoaa
open Go.RowKit Go.Maps
theorem cells3_set {i : Nat} {u : Value} (hi : i < 3) : ∀ {R : List (Fl × Ps)} {k : Nat} {x y : Fl × Ps}, R[k]? = some x → (cell3 x).set i u = cell3 y → (cells3 R).set (k * 3 + i) u = cells3 (R.set k y)
  | [], k, x, y, h, _ => by simp at h
  | z :: r, 0, x, y, h, hy => by
    simp at h; subst h
    have e : ∀ t : Fl × Ps, cells3 (t :: r) = cell3 t ++ cells3 r := fun t => rfl
    rw [List.set_cons_zero, e, e, ← hy, Nat.zero_mul, Nat.zero_add, List.set_append_left _ _ (by simpa [cell3] using hi)]
  | z :: r, k + 1, x, y, h, hy => by
    have e : ∀ (t : Fl × Ps) q, cells3 (t :: q) = cell3 t ++ cells3 q := fun t q => rfl
    have ih := cells3_set hi (R := r) (k := k) (by simpa using h) hy
    rw [List.set_cons_succ, e, e, ← ih, List.set_append_right _ _ (by simp [cell3]; omega)]
    congr 2
    simp [cell3]; omega
section
variable {S : Nat → Prop} {w w1 w' : World} {g : Nat} {R R' : List (Fl × Ps)} {A : Option Addr} {c : Nat} {d : DS}
theorem own3_block {e : TypeId} {b off n : Nat} (h : w.ownsRow 0 e 3 (.slice (some ⟨b, off, none⟩) n c) n (cells3 R)) :
    off = 0 ∧ ∃ cur : Array Value, w.heap[b]? = some (.cells cur e (0, 0)) ∧ n ≤ c ∧ cur.size = c * 3 ∧ cur.toList.take (n * 3) = cells3 R := by
  rcases h.2 with ⟨hv, h0⟩ | ⟨q, cap, cur, hv, _, hh, h1, h2, h3, h4⟩
  · cases hv
  · injection hv with e1 _ e3
    injection e1 with e1
    injection e1 with e1 e2
    subst e1 e2 e3
    exact ⟨rfl, cur, hh, by omega, by omega, h4⟩
theorem own3_put {e : TypeId} {b off n k i : Nat} {u : Value} {x y : Fl × Ps} (h : w.ownsRow 0 e 3 (.slice (some ⟨b, off, none⟩) n c) n (cells3 R)) (hx : R[k]? = some x) (hi : i < 3) (hy : (cell3 x).set i u = cell3 y) (hw : w1.heap[b]? = w.heap[b]?) :
    (w1.setCell ⟨b, off + k * 3 + i, none⟩ u).ownsRow 0 e 3 (.slice (some ⟨b, off, none⟩) n c) n (cells3 (R.set k y)) ∧ w1.frozen? ⟨b, off + k * 3 + i, none⟩ = false := by
  have hkR : k < R.length := by
    rcases Nat.lt_or_ge k R.length with h1 | h1
    · exact h1
    · rw [List.getElem?_eq_none h1] at hx; cases hx
  have hn := (lies3_own h).2
  rcases h.2 with ⟨hv, h0⟩ | ⟨q, cap, cur, hv, hbq, hh, h1, h2, h3, h4⟩
  · cases hv
  · injection hv with e1 e2 e3
    injection e1 with e1
    injection e1 with e1 e4
    subst e1 e4 e3
    have hh1 : w1.heap[b]? = some (.cells cur e (0, 0)) := hw.trans hh
    refine ⟨⟨by rw [length_cells3, List.length_set]; omega, .inr ⟨b, c, cur.setIfInBounds (0 + k * 3 + i) u, rfl, hbq, ?_, h1, h2, by simpa using h3, ?_⟩⟩, by simp [World.frozen?, hh1]⟩
    · simp [World.setCell, Array.getElem?_modify, hh1]
    · rw [Array.toList_setIfInBounds, List.take_set, h4, Nat.zero_add, cells3_set hi hx hy]
theorem More.lt {w2 : World} (h : ∀ k, S k → k < w.heap.size) (hs : w.heap.size ≤ w2.heap.size) : ∀ k, More S w w2 k → k < w2.heap.size := fun k hk => by
  rcases hk with hk | hk
  · exact Nat.lt_of_lt_of_le (h k hk) hs
  · exact hk.2
theorem ps_some {s : Ps} {a : Addr} (h : s.A = some a) : s.1 = some a.block := by
  unfold Ps.A at h
  cases hr : s.1 with
  | none => rw [hr] at h; cases h
  | some r => rw [hr] at h; injection h with h; rw [← h]
/-- The slice anew: files of before, or one without bytes. -/
theorem Rp.relist (h : Rp S w g R A c d) {q n cap : Nat} (hG : Fw w w1 q n cap R') (hd : ∀ x, x ∈ R' → x ∈ R ∨ (x.2 = (none, 0) ∧ x.1.dt = [])) {l' : List Fl} (hl : R'.map Prod.fst = l') :
    Rp (More S w (w1.setCell ⟨g, 0, none⟩ (.slice (some ⟨q, 0, none⟩) n cap))) (w1.setCell ⟨g, 0, none⟩ (.slice (some ⟨q, 0, none⟩) n cap)) g R' (some ⟨q, 0, none⟩) cap { d with l := l' } ∧ Turn S w (w1.setCell ⟨g, 0, none⟩ (.slice (some ⟨q, 0, none⟩) n cap)) ∧ Turn (fun k => k = g) w (w1.setCell ⟨g, 0, none⟩ (.slice (some ⟨q, 0, none⟩) n cap)) := by
  have hT : Turn S w (w1.setCell ⟨g, 0, none⟩ (.slice (some ⟨q, 0, none⟩) n cap)) := (Turn.of_below hG.low).put h.sg 0 _
  have hlen := (lies3_own hG.own).2
  have hn : l'.length = n := by rw [← hl, List.length_map]; exact hlen
  have hq := hG.lt
  have hg := h.row.lt
  have hsz : (w1.setCell ⟨g, 0, none⟩ (.slice (some ⟨q, 0, none⟩) n cap)).heap.size = w1.heap.size := by simp [World.setCell]
  have stay : ∀ {k : Nat}, k ≠ g → (w1.setCell ⟨g, 0, none⟩ (.slice (some ⟨q, 0, none⟩) n cap)).heap[k]? = w1.heap[k]? := fun {k} hk => Below.heap_setCell w1 ⟨g, 0, none⟩ _ k hk
  refine ⟨⟨More.lt h.lt hT.size, ?_, hl, ?_, fun x hx => ?_, .inl h.sg, fun a ha => ?_, fun x hx r hr => ?_⟩, hT, (Turn.of_below (S := fun k => k = g) hG.low).put (show g = g from rfl) 0 _⟩
  · have := (h.row.below hG.low hg).put 0 (.slice (some ⟨q, 0, none⟩) n cap)
    simpa [hn] using this
  · rw [hn]
    refine own_same ⟨hG.own.1, ?_⟩ (w := w1) fun a ha => ?_
    · rcases hG.own.2 with hv | ⟨q', cap', cur, hv, _, rest⟩
      · exact .inl hv
      · exact .inr ⟨q', cap', cur, hv, Nat.zero_le _, rest⟩
    · injection ha with ha; rw [← ha]; exact stay (by show q ≠ g; omega)
  · rcases hd x hx with hx | ⟨e1, e2⟩
    · refine own_same (h.dat x hx) fun a ha => ?_
      rcases (h.dat x hx).2 with ⟨hv, _⟩ | ⟨q', cap', cur, hv, _, hh, _⟩
      · injection hv with hv; rw [hv] at ha; cases ha
      · injection hv with hv; rw [hv] at ha; injection ha with ha; rw [← ha]
        exact (stay (kind_ne hh h.row (by decide))).trans (hG.low.block q' (Array.getElem?_eq_some_iff.1 hh).1)
    · rw [e1, e2]
      exact ⟨rfl, .inl ⟨rfl, rfl⟩⟩
  · injection ha with ha; rw [← ha]; exact .inr ⟨hq.1, by rw [hsz]; exact hq.2⟩
  · rcases hd x hx with hx | ⟨e1, e2⟩
    · exact .inl (h.sd x hx r hr)
    · rw [e1] at hr; cases hr
/-- A cell of the slice turns. -/
theorem Rp.store (h : Rp S w g R A c d) (hb : Below w.heap.size w w1) {b off k i : Nat} {u : Value} {x y : Fl × Ps} (hA : A = some ⟨b, off, none⟩) (hx : R[k]? = some x) (hi : i < 3) (hy : (cell3 x).set i u = cell3 y)
    (hd : w1.ownsRow 0 5 1 (.slice y.2.A y.1.dt.length y.2.2) y.1.dt.length (cellsOf y.1.dt)) (hs : ∀ r, y.2.1 = some r → S r ∨ (w.heap.size ≤ r ∧ r < w1.heap.size)) :
    (Rp (More S w (w1.setCell ⟨b, off + k * 3 + i, none⟩ u)) (w1.setCell ⟨b, off + k * 3 + i, none⟩ u) g (R.set k y) A c { d with l := d.l.set k y.1 } ∧ Turn S w (w1.setCell ⟨b, off + k * 3 + i, none⟩ u)) ∧ w1.frozen? ⟨b, off + k * 3 + i, none⟩ = false := by
  subst hA
  obtain ⟨_, cur, hcur, _⟩ := own3_block h.own
  have hbl : b < w.heap.size := (Array.getElem?_eq_some_iff.1 hcur).1
  have hT : Turn S w (w1.setCell ⟨b, off + k * 3 + i, none⟩ u) := (Turn.of_below hb).put (h.sA _ rfl) _ _
  obtain ⟨ho, hf⟩ := own3_put h.own hx hi hy (hb.block b hbl)
  have hsz : (w1.setCell ⟨b, off + k * 3 + i, none⟩ u).heap.size = w1.heap.size := by simp [World.setCell]
  have stay : ∀ {k' : Nat} {cs : Array Value} {t : TypeId} {fr : Nat × Nat}, w1.heap[k']? = some (.cells cs t fr) → t ≠ 78 → (w1.setCell ⟨b, off + k * 3 + i, none⟩ u).heap[k']? = w1.heap[k']? := fun {k' cs t fr} hk' hne =>
    Below.heap_setCell w1 ⟨b, off + k * 3 + i, none⟩ _ k' (kind_ne hk' ((hb.block b hbl).trans hcur) hne)
  refine ⟨⟨⟨More.lt h.lt hT.size, ?_, ?_, ?_, fun z hz => ?_, .inl h.sg, fun a ha => .inl (h.sA a ha), fun z hz r hr => ?_⟩, hT⟩, hf⟩
  · have := h.row.below hb h.row.lt
    rw [List.length_set]
    exact (stay this (by decide)).trans this
  · rw [List.map_set, h.ls]
  · simpa using ho
  · have key : ∀ {A' : Option Addr} {n' c' : Nat} {vs : List Value}, w1.ownsRow 0 5 1 (.slice A' n' c') n' vs → (w1.setCell ⟨b, off + k * 3 + i, none⟩ u).ownsRow 0 5 1 (.slice A' n' c') n' vs := fun {A' n' c' vs} h' => own_same h' fun a ha => by
      rcases h'.2 with ⟨hv, _⟩ | ⟨q', cap', cur', hv, _, hh, _⟩
      · injection hv with hv; rw [hv] at ha; cases ha
      · injection hv with hv; rw [hv] at ha; injection ha with ha; rw [← ha]; exact stay hh (by decide)
    rcases List.mem_or_eq_of_mem_set hz with hz | rfl
    · refine key (own_same (h.dat z hz) fun a ha => ?_)
      exact hb.block _ (h.lt _ (h.sd z hz _ (ps_some ha)))
    · exact key hd
  · rcases List.mem_or_eq_of_mem_set hz with hz | rfl
    · exact .inl (h.sd z hz r hr)
    · exact (hs r hr).imp id fun e => ⟨e.1, by rw [hsz]; exact e.2⟩
end
end Go.Proofs.Ytllgjbkmemheoaa
