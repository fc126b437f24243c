/- What turns in the document's disk: its slice anew, a cell of it. No condition. -/
import Derived.Test.YtkmcnhjfnjikaaaGreatDoorKrfa
import Derived.Deep.DeepCutAuto
import Derived.Deep.RegionHeld3
import Derived.BigQuiet
import Derived.Deep.CutBlock
namespace Go.Proofs.YtkmcnhjfnjikaaaGreatDoor
open Go.RowKit Go.Maps
theorem cells3_set {i : Nat} {u : Value} (hi : i < 3) : ∀ {R : List (Fl × Ps)} {k : Nat} {x y : Fl × Ps}, R[k]? = some x → (cell3 x).set i u = cell3 y → (cells3 R).set (k * 3 + i) u = cells3 (R.set k y)
  | [], k, x, y, h, _ => by simp at h
  | z :: r, 0, x, y, h, hy => by
    simp at h; subst h
    have e : ∀ t : Fl × Ps, cells3 (t :: r) = cell3 t ++ cells3 r := fun t => rfl
    rw [List.set_cons_zero, e, e, ← hy, Nat.zero_mul, Nat.zero_add, List.set_append_left _ _ (by simpa [cell3] using hi)]
  | z :: r, k + 1, x, y, h, hy => by
    have e : ∀ (t : Fl × Ps) q, cells3 (t :: q) = cell3 t ++ cells3 q := fun t q => rfl
    have ih := cells3_set hi (R := r) (k := k) (by simpa using h) hy
    rw [List.set_cons_succ, e, e, ← ih, List.set_append_right _ _ (by simp [cell3]; omega)]
    congr 2
    simp [cell3]; omega
section
variable {S : Nat → Prop} {w w1 w' : World} {g : Nat} {R R' : List (Fl × Ps)} {A : Option Addr} {c : Nat} {d : DS}
theorem own3_block {e : TypeId} {b off n : Nat} (h : w.ownsRow 0 e 3 (.slice (some ⟨b, off, none⟩) n c) n (cells3 R)) :
    off = 0 ∧ ∃ cur : Array Value, w.heap[b]? = some (.cells cur e (0, 0)) ∧ n ≤ c ∧ cur.size = c * 3 ∧ cur.toList.take (n * 3) = cells3 R := by
  rcases h.2 with ⟨hv, h0⟩ | ⟨q, cap, cur, hv, _, hh, h1, h2, h3, h4⟩
  · cases hv
  · injection hv with e1 _ e3
    injection e1 with e1
    injection e1 with e1 e2
    subst e1 e2 e3
    exact ⟨rfl, cur, hh, by omega, by omega, h4⟩
theorem own3_put {e : TypeId} {b off n k i : Nat} {u : Value} {x y : Fl × Ps} (h : w.ownsRow 0 e 3 (.slice (some ⟨b, off, none⟩) n c) n (cells3 R)) (hx : R[k]? = some x) (hi : i < 3) (hy : (cell3 x).set i u = cell3 y) (hw : w1.heap[b]? = w.heap[b]?) :
    (w1.setCell ⟨b, off + k * 3 + i, none⟩ u).ownsRow 0 e 3 (.slice (some ⟨b, off, none⟩) n c) n (cells3 (R.set k y)) ∧ w1.frozen? ⟨b, off + k * 3 + i, none⟩ = false := by
  have hkR : k < R.length := by
    rcases Nat.lt_or_ge k R.length with h1 | h1
    · exact h1
    · rw [List.getElem?_eq_none h1] at hx; cases hx
  have hn := (lies3_own h).2
  rcases h.2 with ⟨hv, h0⟩ | ⟨q, cap, cur, hv, hbq, hh, h1, h2, h3, h4⟩
  · cases hv
  · injection hv with e1 e2 e3
    injection e1 with e1
    injection e1 with e1 e4
    subst e1 e4 e3
    have hh1 : w1.heap[b]? = some (.cells cur e (0, 0)) := hw.trans hh
    refine ⟨⟨by rw [length_cells3, List.length_set]; omega, .inr ⟨b, c, cur.setIfInBounds (0 + k * 3 + i) u, rfl, hbq, ?_, h1, h2, by simpa using h3, ?_⟩⟩, by simp [World.frozen?, hh1]⟩
    · simp [World.setCell, Array.getElem?_modify, hh1]
    · rw [Array.toList_setIfInBounds, List.take_set, h4, Nat.zero_add, cells3_set hi hx hy]
theorem More.lt {w2 : World} (h : ∀ k, S k → k < w.heap.size) (hs : w.heap.size ≤ w2.heap.size) : ∀ k, More S w w2 k → k < w2.heap.size := fun k hk => by
  rcases hk with hk | hk
  · exact Nat.lt_of_lt_of_le (h k hk) hs
  · exact hk.2
theorem ps_some {s : Ps} {a : Addr} (h : s.A = some a) : s.1 = some a.block := by
  unfold Ps.A at h
  cases hr : s.1 with
  | none => rw [hr] at h; cases h
  | some r => rw [hr] at h; injection h with h; rw [← h]
/-- The slice anew: files of before, or one without bytes. -/
theorem Rp.relist (h : Rp S w g R A c d) {q n cap : Nat} (hG : Fw w w1 q n cap R') (hd : ∀ x, x ∈ R' → x ∈ R ∨ (x.2 = (none, 0) ∧ x.1.dt = [])) {l' : List Fl} (hl : R'.map Prod.fst = l') :
    Rp (More S w (w1.setCell ⟨g, 0, none⟩ (.slice (some ⟨q, 0, none⟩) n cap))) (w1.setCell ⟨g, 0, none⟩ (.slice (some ⟨q, 0, none⟩) n cap)) g R' (some ⟨q, 0, none⟩) cap { d with l := l' } ∧ Turn S w (w1.setCell ⟨g, 0, none⟩ (.slice (some ⟨q, 0, none⟩) n cap)) ∧ Turn (fun k => k = g) w (w1.setCell ⟨g, 0, none⟩ (.slice (some ⟨q, 0, none⟩) n cap)) := by
  have hT : Turn S w (w1.setCell ⟨g, 0, none⟩ (.slice (some ⟨q, 0, none⟩) n cap)) := (Turn.of_below hG.low).put h.sg 0 _
  have hlen := (lies3_own hG.own).2
  have hn : l'.length = n := by rw [← hl, List.length_map]; exact hlen
  have hq := hG.lt
  have hg := h.row.lt
  have hsz : (w1.setCell ⟨g, 0, none⟩ (.slice (some ⟨q, 0, none⟩) n cap)).heap.size = w1.heap.size := by simp [World.setCell]
  have stay : ∀ {k : Nat}, k ≠ g → (w1.setCell ⟨g, 0, none⟩ (.slice (some ⟨q, 0, none⟩) n cap)).heap[k]? = w1.heap[k]? := fun {k} hk => Below.heap_setCell w1 ⟨g, 0, none⟩ _ k hk
  refine ⟨⟨More.lt h.lt hT.size, ?_, hl, ?_, fun x hx => ?_, .inl h.sg, fun a ha => ?_, fun x hx r hr => ?_⟩, hT, (Turn.of_below (S := fun k => k = g) hG.low).put (show g = g from rfl) 0 _⟩
  · have := (h.row.below hG.low hg).put 0 (.slice (some ⟨q, 0, none⟩) n cap)
    simpa [hn] using this
  · rw [hn]
    refine own_same ⟨hG.own.1, ?_⟩ (w := w1) fun a ha => ?_
    · rcases hG.own.2 with hv | ⟨q', cap', cur, hv, _, rest⟩
      · exact .inl hv
      · exact .inr ⟨q', cap', cur, hv, Nat.zero_le _, rest⟩
    · injection ha with ha; rw [← ha]; exact stay (by show q ≠ g; omega)
  · rcases hd x hx with hx | ⟨e1, e2⟩
    · refine own_same (h.dat x hx) fun a ha => ?_
      rcases (h.dat x hx).2 with ⟨hv, _⟩ | ⟨q', cap', cur, hv, _, hh, _⟩
      · injection hv with hv; rw [hv] at ha; cases ha
      · injection hv with hv; rw [hv] at ha; injection ha with ha; rw [← ha]
        exact (stay (kind_ne hh h.row (by decide))).trans (hG.low.block q' (Array.getElem?_eq_some_iff.1 hh).1)
    · rw [e1, e2]
      exact ⟨rfl, .inl ⟨rfl, rfl⟩⟩
  · injection ha with ha; rw [← ha]; exact .inr ⟨hq.1, by rw [hsz]; exact hq.2⟩
  · rcases hd x hx with hx | ⟨e1, e2⟩
    · exact .inl (h.sd x hx r hr)
    · rw [e1] at hr; cases hr
/-- A cell of the slice turns. -/
theorem Rp.store (h : Rp S w g R A c d) (hb : Below w.heap.size w w1) {b off k i : Nat} {u : Value} {x y : Fl × Ps} (hA : A = some ⟨b, off, none⟩) (hx : R[k]? = some x) (hi : i < 3) (hy : (cell3 x).set i u = cell3 y)
    (hd : w1.ownsRow 0 5 1 (.slice y.2.A y.1.dt.length y.2.2) y.1.dt.length (cellsOf y.1.dt)) (hs : ∀ r, y.2.1 = some r → S r ∨ (w.heap.size ≤ r ∧ r < w1.heap.size)) :
    (Rp (More S w (w1.setCell ⟨b, off + k * 3 + i, none⟩ u)) (w1.setCell ⟨b, off + k * 3 + i, none⟩ u) g (R.set k y) A c { d with l := d.l.set k y.1 } ∧ Turn S w (w1.setCell ⟨b, off + k * 3 + i, none⟩ u)) ∧ w1.frozen? ⟨b, off + k * 3 + i, none⟩ = false := by
  subst hA
  obtain ⟨_, cur, hcur, _⟩ := own3_block h.own
  have hbl : b < w.heap.size := (Array.getElem?_eq_some_iff.1 hcur).1
  have hT : Turn S w (w1.setCell ⟨b, off + k * 3 + i, none⟩ u) := (Turn.of_below hb).put (h.sA _ rfl) _ _
  obtain ⟨ho, hf⟩ := own3_put h.own hx hi hy (hb.block b hbl)
  have hsz : (w1.setCell ⟨b, off + k * 3 + i, none⟩ u).heap.size = w1.heap.size := by simp [World.setCell]
  have stay : ∀ {k' : Nat} {cs : Array Value} {t : TypeId} {fr : Nat × Nat}, w1.heap[k']? = some (.cells cs t fr) → t ≠ 104 → (w1.setCell ⟨b, off + k * 3 + i, none⟩ u).heap[k']? = w1.heap[k']? := fun {k' cs t fr} hk' hne =>
    Below.heap_setCell w1 ⟨b, off + k * 3 + i, none⟩ _ k' (kind_ne hk' ((hb.block b hbl).trans hcur) hne)
  refine ⟨⟨⟨More.lt h.lt hT.size, ?_, ?_, ?_, fun z hz => ?_, .inl h.sg, fun a ha => .inl (h.sA a ha), fun z hz r hr => ?_⟩, hT⟩, hf⟩
  · have := h.row.below hb h.row.lt
    rw [List.length_set]
    exact (stay this (by decide)).trans this
  · rw [List.map_set, h.ls]
  · simpa using ho
  · have key : ∀ {A' : Option Addr} {n' c' : Nat} {vs : List Value}, w1.ownsRow 0 5 1 (.slice A' n' c') n' vs → (w1.setCell ⟨b, off + k * 3 + i, none⟩ u).ownsRow 0 5 1 (.slice A' n' c') n' vs := fun {A' n' c' vs} h' => own_same h' fun a ha => by
      rcases h'.2 with ⟨hv, _⟩ | ⟨q', cap', cur', hv, _, hh, _⟩
      · injection hv with hv; rw [hv] at ha; cases ha
      · injection hv with hv; rw [hv] at ha; injection ha with ha; rw [← ha]; exact stay hh (by decide)
    rcases List.mem_or_eq_of_mem_set hz with hz | rfl
    · refine key (own_same (h.dat z hz) fun a ha => ?_)
      exact hb.block _ (h.lt _ (h.sd z hz _ (ps_some ha)))
    · exact key hd
  · rcases List.mem_or_eq_of_mem_set hz with hz | rfl
    · exact .inl (h.sd z hz r hr)
    · exact (hs r hr).imp id fun e => ⟨e.1, by rw [hsz]; exact e.2⟩
end
end Go.Proofs.YtkmcnhjfnjikaaaGreatDoor
/- A file goes out of the document's disk; its power. Conditions: the slice has room. -/
namespace Go.Proofs.YtkmcnhjfnjikaaaGreatDoor
open Go.RowKit Go.Maps
theorem own_drew {S S' : Nat → Prop} {w w' : World} (h : Own S w.drew S' w') : Own S w S' w' := ⟨⟨h.1.1, h.1.2, h.1.3, h.1.4, h.1.5⟩, h.2⟩
theorem own_drew2 {S S' T : Nat → Prop} {w w' : World} (h : Own S w.drew S' w') (k : Turn T w.drew w') : Own S w S' w' ∧ Turn T w w' := ⟨own_drew h, ⟨k.1, k.2, k.3, k.4, k.5⟩⟩
theorem below_drew (w : World) : Below w.heap.size w w.drew := ⟨rfl, rfl, rfl, Nat.le_refl _, fun _ _ => rfl⟩
theorem own3_cap {w : World} {e : TypeId} {A : Option Addr} {n c : Nat} {R : List (Fl × Ps)} (h : w.ownsRow 0 e 3 (.slice A n c) n (cells3 R)) : n ≤ c ∧ (A = none → c = 0) := by
  rcases h.2 with ⟨hv, h0⟩ | ⟨g, cap, cur, hv, _, _, hc, _⟩
  · injection hv with h1 _ h3; exact ⟨by omega, fun _ => h3⟩
  · injection hv with h1 _ h3; exact ⟨by omega, fun e => by rw [e] at h1; cases h1⟩
section
variable {S : Nat → Prop} {w : World} {g : Nat} {R : List (Fl × Ps)} {A : Option Addr} {c : Nat} {d : DS}
theorem Rp.c0 (h : Rp S w g R A c d) : w.cell? ⟨g, 0, none⟩ = some (.slice A d.l.length c) := h.row.cell 0
set_option maxRecDepth 100000 in
set_option maxHeartbeats 4000000 in
theorem out_any (h : Rp S w g R A c d) (k : Nat) (hk : k < d.l.length) (hln : d.l.length ≤ 1000000) :
    Calls Tryz.prog 95 #[.pointer (some ⟨g, 0, none⟩), .int .i64 k] w fun e w' => e = .returned (.tuple #[]) ∧ ∃ S' R' A' c', Rp S' w' g R' A' c' { d with l := d.l.take k ++ d.l.drop (k + 1) } ∧ Own S w S' w' ∧ Turn (fun k => k = g) w w' := by
  obtain ⟨hcap, hnil⟩ := own3_cap h.own
  have hlen := (lies3_own h.own).2
  have HCAP := hide hcap; have HNIL := hide hnil; have HLEN := hide hlen
  obtain ⟨j, hj⟩ : ∃ j, j = k + 1 := ⟨_, rfl⟩
  have hk2 : j ≤ d.l.length := by omega
  have hw1 : IntKind.i64.wrap ((k : Int) + 1) = (j : Int) := by
    rw [IntKind.wrap_i64]; omega
  rw [← hj]
  have HJ := hide hj
  clear hj
  have hc1 : k ≤ c := by omega
  have HO := hide (fun S' w' => own_drew2 (S := S) (S' := S') (T := fun k => k = g) (w := w) (w' := w'))
  have QQ := hide (h.below (below_drew w))
  clear h hnil hlen
  go_enter Tryz.func95, Tryz.ntmps95
  go_upto_region 0 with fail
  refine wp_region_noPanic ?_
  refine wp_region_T 19 (fun w' => w'.cell? ⟨g, 0, none⟩ = some (.slice A d.l.length c)) (by kernel_rfl) ?_
  generalize World.drew _ = wd at QQ HO ⊢
  refine anyT_take (i := 0) (v := ?ov0) (by simp only [List.getElem?_toArray, List.getElem?_cons_zero]; exact rfl) (by kernel_rfl) (by kernel_rfl) (fun _ _ _ h => h) (by kernel_rfl) (by kernel_rfl) (Or.inl ⟨by rfl, ?oy0⟩) (by with_reducible exact (QQ.out.c0)) ?or0
  case oy0 => (intro w hSw; (try dsimp only at hSw); go_simp; try with_reducible rfl)
  try simp only [Act.put, List.setIfInBounds_toArray, List.set_cons_zero, List.set_cons_succ]
  refine anyT_take (i := 2) (v := ?ov2) (by simp only [List.getElem?_toArray, List.getElem?_cons_succ, List.getElem?_cons_zero]; exact rfl) (by kernel_rfl) (by kernel_rfl) (fun _ _ _ h => h) (by kernel_rfl) (by kernel_rfl) (Or.inl ⟨by rfl, ?oy2⟩) (by with_reducible exact (QQ.out.c0)) ?or2
  case oy2 => (intro w hSw; (try dsimp only at hSw); go_simp; try with_reducible rfl)
  try simp only [Act.put, List.setIfInBounds_toArray, List.set_cons_zero, List.set_cons_succ]
  refine anyT_take (i := 3) (v := ?ov3) (by simp only [List.getElem?_toArray, List.getElem?_cons_succ, List.getElem?_cons_zero]; exact rfl) (by kernel_rfl) (by kernel_rfl) (fun _ _ _ h => h) (by kernel_rfl) (by kernel_rfl) (Or.inl ⟨by rfl, ?oy3⟩) (by with_reducible exact (QQ.out.c0)) ?or3
  case oy3 => (intro w hSw; (try dsimp only at hSw); go_simp; try with_reducible rfl)
  try simp only [Act.put, List.setIfInBounds_toArray, List.set_cons_zero, List.set_cons_succ]
  refine anyT_take (i := 4) (v := ?ov4) (by simp only [List.getElem?_toArray, List.getElem?_cons_succ, List.getElem?_cons_zero]; exact rfl) (by kernel_rfl) (by kernel_rfl) (fun _ _ _ h => h) (by kernel_rfl) (by kernel_rfl) (Or.inl ⟨by rfl, ?oy4⟩) (by with_reducible exact (QQ.out.c0)) ?or4
  case oy4 => (intro w hSw; (try dsimp only at hSw); go_simp; try with_reducible rfl)
  try simp only [Act.put, List.setIfInBounds_toArray, List.set_cons_zero, List.set_cons_succ]
  refine anyT_take (i := 5) (v := ?ov5) (by simp only [List.getElem?_toArray, List.getElem?_cons_succ, List.getElem?_cons_zero]; exact rfl) (by kernel_rfl) (by kernel_rfl) (fun _ _ _ h => h) (by kernel_rfl) (by kernel_rfl) (Or.inl ⟨by rfl, ?oy5⟩) (by with_reducible exact (QQ.out.c0)) ?or5
  case oy5 => (intro w hSw; (try dsimp only at hSw); go_simp; try with_reducible rfl)
  try simp only [Act.put, List.setIfInBounds_toArray, List.set_cons_zero, List.set_cons_succ]
  refine anyT_take (i := 6) (v := ?ov6) (by simp only [List.getElem?_toArray, List.getElem?_cons_succ, List.getElem?_cons_zero]; exact rfl) (by kernel_rfl) (by kernel_rfl) (fun _ _ _ h => h) (by kernel_rfl) (by kernel_rfl) (Or.inl ⟨by rfl, ?oy6⟩) (by with_reducible exact (QQ.out.c0)) ?or6
  case oy6 => (intro w hSw; (try dsimp only at hSw); go_simp; try with_reducible rfl)
  try simp only [Act.put, List.setIfInBounds_toArray, List.set_cons_zero, List.set_cons_succ]
  refine anyT_take (i := 7) (v := ?ov7) (by simp only [List.getElem?_toArray, List.getElem?_cons_succ, List.getElem?_cons_zero]; exact rfl) (by kernel_rfl) (by kernel_rfl) (fun _ _ _ h => h) (by kernel_rfl) (by kernel_rfl) (Or.inl ⟨by rfl, ?oy7⟩) (by with_reducible exact (QQ.out.c0)) ?or7
  case oy7 => (intro w hSw; (try dsimp only at hSw); go_simp; try with_reducible rfl)
  try simp only [Act.put, List.setIfInBounds_toArray, List.set_cons_zero, List.set_cons_succ]
  refine anyT_take (i := 9) (v := ?ov9) (by simp only [List.getElem?_toArray, List.getElem?_cons_succ, List.getElem?_cons_zero]; exact rfl) (by kernel_rfl) (by kernel_rfl) (fun _ _ _ h => h) (by kernel_rfl) (by kernel_rfl) (Or.inl ⟨by rfl, ?oy9⟩) (by with_reducible exact (QQ.out.c0)) ?or9
  case oy9 => (intro w hSw; (try dsimp only at hSw); go_simp; try with_reducible rfl)
  try simp only [Act.put, List.setIfInBounds_toArray, List.set_cons_zero, List.set_cons_succ]
  refine anyT_take (i := 10) (v := ?ov10) (by simp only [List.getElem?_toArray, List.getElem?_cons_succ, List.getElem?_cons_zero]; exact rfl) (by kernel_rfl) (by kernel_rfl) (fun _ _ _ h => h) (by kernel_rfl) (by kernel_rfl) (Or.inl ⟨by rfl, ?oy10⟩) (by with_reducible exact (QQ.out.c0)) ?or10
  case oy10 => (intro w hSw; (try dsimp only at hSw); go_simp; try with_reducible rfl)
  try simp only [Act.put, List.setIfInBounds_toArray, List.set_cons_zero, List.set_cons_succ]
  refine anyT_take (i := 11) (v := ?ov11) (by simp only [List.getElem?_toArray, List.getElem?_cons_succ, List.getElem?_cons_zero]; exact rfl) (by kernel_rfl) (by kernel_rfl) (fun _ _ _ h => h) (by kernel_rfl) (by kernel_rfl) (Or.inl ⟨by rfl, ?oy11⟩) (by with_reducible exact (QQ.out.c0)) ?or11
  case oy11 => (intro w hSw; (try dsimp only at hSw); go_simp; try with_reducible rfl)
  try simp only [Act.put, List.setIfInBounds_toArray, List.set_cons_zero, List.set_cons_succ]
  refine anyT_take (i := 12) (v := ?ov12) (by simp only [List.getElem?_toArray, List.getElem?_cons_succ, List.getElem?_cons_zero]; exact rfl) (by kernel_rfl) (by kernel_rfl) (fun _ _ _ h => h) (by kernel_rfl) (by kernel_rfl) (Or.inl ⟨by rfl, ?oy12⟩) (by with_reducible exact (QQ.out.c0)) ?or12
  case oy12 => (intro w hSw; (try dsimp only at hSw); go_simp; try with_reducible rfl)
  try simp only [Act.put, List.setIfInBounds_toArray, List.set_cons_zero, List.set_cons_succ]
  refine anyT_take (i := 13) (v := ?ov13) (by simp only [List.getElem?_toArray, List.getElem?_cons_succ, List.getElem?_cons_zero]; exact rfl) (by kernel_rfl) (by kernel_rfl) (fun _ _ _ h => h) (by kernel_rfl) (by kernel_rfl) (Or.inl ⟨by rfl, ?oy13⟩) (by with_reducible exact (QQ.out.c0)) ?or13
  case oy13 => (intro w hSw; (try dsimp only at hSw); go_simp; try with_reducible rfl)
  try simp only [Act.put, List.setIfInBounds_toArray, List.set_cons_zero, List.set_cons_succ]
  refine anyT_take (i := 14) (v := ?ov14) (by simp only [List.getElem?_toArray, List.getElem?_cons_succ, List.getElem?_cons_zero]; exact rfl) (by kernel_rfl) (by kernel_rfl) (fun _ _ _ h => h) (by kernel_rfl) (by kernel_rfl) (Or.inl ⟨by rfl, ?oy14⟩) (by with_reducible exact (QQ.out.c0)) ?or14
  case oy14 => (intro w hSw; (try dsimp only at hSw); go_simp; try with_reducible rfl)
  try simp only [Act.put, List.setIfInBounds_toArray, List.set_cons_zero, List.set_cons_succ]
  refine anyT_take (i := 15) (v := ?ov15) (by simp only [List.getElem?_toArray, List.getElem?_cons_succ, List.getElem?_cons_zero]; exact rfl) (by kernel_rfl) (by kernel_rfl) (fun _ _ _ h => h) (by kernel_rfl) (by kernel_rfl) (Or.inl ⟨by rfl, ?oy15⟩) (by with_reducible exact (QQ.out.c0)) ?or15
  case oy15 => (intro w hSw; (try dsimp only at hSw); go_simp; try with_reducible rfl)
  try simp only [Act.put, List.setIfInBounds_toArray, List.set_cons_zero, List.set_cons_succ]
  have HB := hide (Below.refl wd.heap.size wd)
  refine anyT_one (i := 1) (by kernel_rfl) (by simp only [List.getElem?_toArray, List.getElem?_cons_succ, List.getElem?_cons_zero]; exact rfl) (fun K hK => ?_)
  go_simp
  have HBN := hide (HB.out.alloc HB.out.size (.cells #[] 104))
  have HGN := hide (Fw.start HB.out)
  refine hK.out _ _ (fun _ => ((QQ.out.below HBN.out).c0)) ?_
  clear hK K HB
  try simp only [Act.put, List.setIfInBounds_toArray, List.set_cons_zero, List.set_cons_succ]
  generalize World.alloc wd _ = wa at HBN HGN ⊢
  have HB := HBN
  clear HBN
  have HG := HGN
  clear HGN
  refine anyT_one (i := 8) (by kernel_rfl) (by simp only [List.getElem?_toArray, List.getElem?_cons_succ, List.getElem?_cons_zero]; exact rfl) (fun K hK => ?_)
  refine step_append_fw (by rfl) (.tmp 5) (.tmp 11) (by rfl) (by rfl) HG.out _ k _ (R.take k) (by rfl) (by rw [List.length_take, HLEN.out]; omega) HNIL.out ((lies3_own (QQ.out.below HB.out).own).1.take k) k (by omega) (by omega) (fun g8 cap8 w8 hG hg hcap => ?_)
  have HBN := hide hG.low
  have HGN := hide hG
  refine hK.out _ _ (fun _ => ((QQ.out.below HBN.out).c0)) ?_
  clear hK K HB HG hG hg hcap
  try simp only [Act.put, List.setIfInBounds_toArray, List.set_cons_zero, List.set_cons_succ]
  have HB := HBN
  clear HBN
  have HG := HGN
  clear HGN
  refine anyT_one (i := 16) (by kernel_rfl) (by simp only [List.getElem?_toArray, List.getElem?_cons_succ, List.getElem?_cons_zero]; exact rfl) (fun K hK => ?_)
  refine step_append_fw (by rfl) (.tmp 12) (.tmp 19) (by rfl) (by rfl) HG.out (part3 A c j) (d.l.length - j) _ (R.drop j) (by rfl) (by rw [List.length_drop, HLEN.out]) (part3_none HNIL.out) ((lies3_own (QQ.out.below HB.out).own).1.rest (by rw [HLEN.out]; exact HCAP.out) j) (k + (d.l.length - j)) rfl (by omega) (fun g16 cap16 w16 hG hg hcap => ?_)
  have HBN := hide hG.low
  have HGN := hide hG
  refine hK.out _ _ (fun _ => ((QQ.out.below HBN.out).c0)) ?_
  clear hK K HB HG hG hg hcap
  try simp only [Act.put, List.setIfInBounds_toArray, List.set_cons_zero, List.set_cons_succ]
  have HB := HBN
  clear HBN
  have HG := HGN
  clear HGN
  refine anyT_one (i := 17) (by kernel_rfl) (by simp only [List.getElem?_toArray, List.getElem?_cons_succ, List.getElem?_cons_zero]; exact rfl) (fun K hK => ?_)
  go_simp
  refine hK.out _ _ (fun _ => ((QQ.out.below HB.out).c0)) ?_
  clear hK K
  try simp only [Act.put, List.setIfInBounds_toArray, List.set_cons_zero, List.set_cons_succ]
  refine anyT_one (i := 18) (by kernel_rfl) (by simp only [List.getElem?_toArray, List.getElem?_cons_succ, List.getElem?_cons_zero]; exact rfl) (fun K hK => ?_)
  go_simp
  refine hK.out _ _ (fun _ => ((QQ.out.below HB.out).c0)) ?_
  clear hK K
  try simp only [Act.put, List.setIfInBounds_toArray, List.set_cons_zero, List.set_cons_succ]
  refine anyT_one (i := 19) (by kernel_rfl) (by simp only [List.getElem?_toArray, List.getElem?_cons_succ, List.getElem?_cons_zero]; exact rfl) (fun K hK => ?_)
  have f0 := (QQ.out.below HB.out).row.free 0
  have f1 := (QQ.out.below HB.out).c0
  have fin := hide (QQ.out.relist HG.out (fun x hx => .inl (by simp only [List.nil_append, List.mem_append] at hx; exact hx.elim List.mem_of_mem_take List.mem_of_mem_drop)) (l' := d.l.take k ++ d.l.drop j) (by rw [List.nil_append, List.map_append, List.map_take, List.map_drop, QQ.out.ls]))
  go_simp
  refine hK.out _ _ (fun e => absurd rfl e) ?_
  clear hK K f0 f1
  refine anyT_done (by kernel_rfl) ?_
  refine NoPanic.normal ?_
  go_wp2_with fail
  all_goals go_end0
  all_goals exact ⟨rfl, _, ⟨_, _, _, fin.out.1⟩, HO.out _ _ (Own.more fin.out.2.1) fin.out.2.2⟩
set_option maxHeartbeats 1000000 in
theorem power_any (h : Rp S w g R A c d) (hok : DOk d) :
    Calls Tryz.prog 67 #[.pointer (some ⟨g, 0, none⟩)] w fun e w' => e = .returned (.bool d.spends) ∧ Rp S w' g R A c d.spent ∧ w.grownBy w' (some g) := by
  have c2 : w.cell? ⟨g, 2, none⟩ = some (.int .i64 d.left) := h.row.cell 2
  have c3 : w.cell? ⟨g, 3, none⟩ = some (.bool d.off) := h.row.cell 3
  have f2 : w.frozen? ⟨g, 2, none⟩ = false := h.row.free 2
  have f3 : w.frozen? ⟨g, 3, none⟩ = false := h.row.free 3
  have hlo := hok.left
  by_cases h0 : d.left = 0
  · have H := hide (show DS.spends d = false ∧ Rp S (w.setCell ⟨g, 3, none⟩ (.bool true)) g R A c d.spent ∧ w.grownBy (w.setCell ⟨g, 3, none⟩ (.bool true)) (some g) from by
      have hg := grown_put (grown_refl w (some g)) 3 (.bool true)
      have e : d.spent = { d with off := true } := by unfold DS.spent; rw [if_pos h0]
      refine ⟨by unfold DS.spends; rw [h0]; rfl, h.cells hg ?_ (spent_l d), hg⟩
      rw [e]; exact h.row.put 3 (.bool true))
    rw [h0] at c2
    clear h hlo hok
    go_enter Tryz.func67, Tryz.ntmps67
    go_wp2
    go_ret
    exact ⟨ret_bool H.out.1.symm, H.out.2⟩
  · by_cases h1 : 0 < d.left
    · have H := hide (show DS.spends d = true ∧ Rp S (w.setCell ⟨g, 2, none⟩ (.int .i64 (d.left - 1))) g R A c d.spent ∧ w.grownBy (w.setCell ⟨g, 2, none⟩ (.int .i64 (d.left - 1))) (some g) from by
        have hg := grown_put (grown_refl w (some g)) 2 (.int .i64 (d.left - 1))
        have e : d.spent = { d with left := d.left - 1 } := by unfold DS.spent; rw [if_neg h0, if_pos h1]
        refine ⟨by unfold DS.spends; simpa using h0, h.cells hg ?_ (spent_l d), hg⟩
        rw [e]; exact h.row.put 2 (.int .i64 (d.left - 1)))
      clear h hok
      generalize hl : d.left = lf at *
      clear hl
      go_enter Tryz.func67, Tryz.ntmps67
      go_wp2
      go_ret
      exact ⟨ret_bool H.out.1.symm, H.out.2⟩
    · have hm : d.left = -1 := by omega
      have H := hide (show DS.spends d = true ∧ Rp S w g R A c d.spent ∧ w.grownBy w (some g) from by
        have e : d.spent = d := by unfold DS.spent; rw [if_neg h0, if_neg h1]
        exact ⟨by unfold DS.spends; rw [hm]; rfl, e.symm ▸ h, grown_refl _ _⟩)
      rw [hm] at c2
      clear h hlo hok h0 h1
      go_enter Tryz.func67, Tryz.ntmps67
      go_wp2
      go_ret
      exact ⟨ret_bool H.out.1.symm, H.out.2⟩
end
end Go.Proofs.YtkmcnhjfnjikaaaGreatDoor
/- A file comes into the document's disk, if it isn't there. Conditions: the slice has room. -/
namespace Go.Proofs.YtkmcnhjfnjikaaaGreatDoor
open Go.RowKit Go.Maps
/-- Where a file stands, or would stand. -/
structure PlK (nm : ByteArray) (l : List Fl) (k : Nat) : Prop where
  le : k ≤ l.length
  low : ∀ j x, j < k → l[j]? = some x → ltB x.nm nm = true
  up : ∀ x, l[k]? = some x → ltB x.nm nm = false
theorem plk_none {nm : ByteArray} {l : List Fl} {k : Nat} (h : PlK nm l k) (hu : Up l) (hn : ∀ x, l[k]? = some x → x.nm ≠ nm) : find nm l = none := by
  rw [find_none]
  intro x hx e
  obtain ⟨i, hi⟩ := List.mem_iff_getElem?.1 hx
  rcases Nat.lt_trichotomy i k with h1 | rfl | h1
  · have := h.low i x h1 hi
    rw [e, lt_self] at this; cases this
  · exact hn x hi e
  · obtain ⟨hil, hie⟩ := List.getElem?_eq_some_iff.1 hi
    have hkl : k < l.length := by omega
    have := (List.pairwise_iff_getElem.1 hu) k i hkl hil h1
    rw [hie, e, h.up _ (List.getElem?_eq_getElem hkl)] at this
    cases this
theorem plk_put {nm : ByteArray} {l : List Fl} {k : Nat} (h : PlK nm l k) (hf : find nm l = none) : plcL nm l = l.take k ++ [⟨nm, [], 0⟩] ++ l.drop k ∧ (plcL nm l)[k]? = some ⟨nm, [], 0⟩ := by
  have e : plcL nm l = l.take k ++ [⟨nm, [], 0⟩] ++ l.drop k := by
    unfold plcL
    rw [hf, if_neg (by simp)]
    exact putF_at h.low (fun x hx => ⟨h.up x hx, find_none.1 hf x (List.mem_of_getElem? hx)⟩) h.le
  refine ⟨e, ?_⟩
  have hl := h.le
  rw [e, List.append_assoc, List.getElem?_append_right (by rw [List.length_take]; omega), List.length_take, show k - min k l.length = 0 by omega]
  rfl
theorem plk_same {nm : ByteArray} {l : List Fl} {k : Nat} (hu : Up l) {x : Fl} (hx : l[k]? = some x) (e : x.nm = nm) : plcL nm l = l := by
  unfold plcL
  rw [← e, find_at hu hx, if_pos (show (some x).isSome = true from rfl)]
theorem file_row {w : World} {b : Nat} {t : TypeId} {nm : ByteArray} (h : Row w b t #[.string nm, .slice none 0 0, .int .i64 0]) : Lies3 w (some ⟨b, 0, none⟩) [(⟨nm, [], 0⟩, (none, 0))] := fun _ => ⟨b, 0, rfl, h.lt, fun k x hk => by
  cases k with
  | zero =>
    simp at hk
    subst hk
    exact ⟨h.cell 0, h.cell 1, h.cell 2⟩
  | succ k => simp at hk⟩
/-- What the call comes to. -/
def Plc (S : Nat → Prop) (w : World) (g : Nat) (nm : ByteArray) (d : DS) (e : Ending) (w' : World) : Prop := ∃ (k : Nat) (f : Fl) (S' : Nat → Prop) (R' : List (Fl × Ps)) (A' : Option Addr) (c' : Nat),
  e = .returned (.int .i64 k) ∧ Rp S' w' g R' A' c' { d with l := plcL nm d.l } ∧ (Own S w S' w' ∧ Turn (fun k => k = g) w w') ∧ (plcL nm d.l)[k]? = some f ∧ f.nm = nm
section
variable {S : Nat → Prop} {w : World} {g : Nat} {R : List (Fl × Ps)} {A : Option Addr} {c : Nat} {d : DS}
set_option maxRecDepth 100000 in
set_option maxHeartbeats 4000000 in
theorem place_any (h : Rp S w g R A c d) (hu : Up d.l) (nm : ByteArray) (hln : d.l.length ≤ 1000000) :
    Calls Tryz.prog 68 #[.pointer (some ⟨g, 0, none⟩), .string nm] w (Plc S w g nm d) := by
  obtain ⟨hcap, hnil⟩ := own3_cap h.own
  have hlen := (lies3_own h.own).2
  have HCAP := hide hcap; have HNIL := hide hnil; have HLEN := hide hlen; have HU := hide hu
  have c0 : w.cell? ⟨g, 0, none⟩ = some (.slice A d.l.length c) := h.row.cell 0
  have H := hide h
  clear h hnil hlen hu
  go_enter Tryz.func68, Tryz.ntmps68
  go_upto_block 0 with fail
  go_cut [5] from 5 to 26 (fun s5 wx => ∃ k : Nat, s5 = .int .i64 k ∧ k ≤ d.l.length ∧ Hid (PlK nm d.l k) ∧ w = wx)
  case first =>
    go_wp2
    go_loop [5] (fun i => ∃ k : Nat, k ≤ d.l.length ∧ i = .int .i64 k ∧ Hid (∀ j x, j < k → d.l[j]? = some x → ltB x.nm nm = true)) (fun i => d.l.length - (intOf i).toNat)
    case atStart => exact ⟨0, by omega, rfl, fun j f hj => absurd hj (by omega)⟩
    case round =>
      obtain ⟨k, hk, rfl, hs⟩ := hrel
      by_cases hlt : k < d.l.length
      · obtain ⟨b, off, s, rfl, _, _, n0, _, _⟩ := H.out.at_ (List.getElem?_eq_getElem hlt)
        by_cases he : ltB d.l[k].nm nm = true
        · have HS := hide (show ∀ j x, j < k + 1 → d.l[j]? = some x → ltB x.nm nm = true from fun j f hj hf => by
            rcases Nat.lt_or_ge j k with h | h
            · exact hs.out j f h hf
            · obtain rfl : j = k := by omega
              rw [List.getElem?_eq_getElem hlt] at hf
              injection hf with hf
              rw [← hf]; exact he)
          have hE : Op.bytesLess d.l[k].nm.toList nm.toList = true := he
          clear hs he
          go_wp2
          go_round
          case rel => exact ⟨k + 1, by omega, by go_num, HS⟩
          case measure => simp [intOf]; omega
        · have HP := hide (show PlK nm d.l k from ⟨hk, hs.out, fun x hx => by
            rw [List.getElem?_eq_getElem hlt] at hx
            injection hx with hx
            rw [← hx]; simpa using he⟩)
          have hE : Op.bytesLess d.l[k].nm.toList nm.toList = false := by simpa [ltB] using he
          clear hs he
          go_wp2
          go_meet
          exact ⟨k, rfl, hk, HP, rfl⟩
      · have HP := hide (show PlK nm d.l k from ⟨hk, hs.out, fun x hx => by rw [List.getElem?_eq_none (by omega)] at hx; cases hx⟩)
        clear hs
        go_wp2
        go_meet
        exact ⟨k, rfl, hk, HP, rfl⟩
  case rest =>
    obtain ⟨k, rfl, hk, HP, rfl⟩ := hcut
    go_upto_region 4 with (fail)
    go_cut [45] (fun s45 wx => ∃ t : Bool, s45 = .bool t ∧ (if t = true then find nm d.l = none else ∃ x, d.l[k]? = some x ∧ x.nm = nm) ∧ w = wx)
    case first =>
      by_cases hlt : k < d.l.length
      · obtain ⟨b, off, s, rfl, _, _, n0, _, _⟩ := H.out.at_ (List.getElem?_eq_getElem hlt)
        have hne : ¬ (k : Int) = (d.l.length : Int) := by omega
        by_cases he : d.l[k].nm = nm
        · have hE : (d.l[k].nm.toList == nm.toList) = true := by rw [he]; simp
          have HT := hide (show ∃ x, d.l[k]? = some x ∧ x.nm = nm from ⟨_, List.getElem?_eq_getElem hlt, he⟩)
          clear he
          go_wp2
          go_meet
          exact ⟨false, (by simp; omega), HT.out, rfl⟩
        · have hE : (d.l[k].nm.toList == nm.toList) = false := by
            cases hx : (d.l[k].nm.toList == nm.toList)
            · rfl
            · exact absurd (text_ext (beq_iff_eq.1 hx)) he
          have HT := hide (plk_none HP.out HU.out (fun x hx => by
            rw [List.getElem?_eq_getElem hlt] at hx
            injection hx with hx
            rw [← hx]; exact he))
          clear he
          go_wp2
          go_meet
          exact ⟨true, rfl, HT.out, rfl⟩
      · have HT := hide (plk_none HP.out HU.out (fun x hx => by rw [List.getElem?_eq_none (by omega)] at hx; cases hx))
        have hkn : k = d.l.length := by omega
        clear hlt
        subst hkn
        go_wp2
        go_meet
        exact ⟨true, rfl, HT.out, rfl⟩
    case rest =>
      obtain ⟨t, rfl, ht, rfl⟩ := hcut
      cases t with
      | false =>
        have HT := hide ht
        clear ht
        go_wp2
        go_ret
        obtain ⟨x, hx, e⟩ := HT.out
        have es := plk_same HU.out hx e
        refine ⟨k, x, S, R, A, c, rfl, ?_, ⟨Own.refl _ _, Turn.refl _ _⟩, ?_, e⟩
        · rw [es]; exact H.out
        · rw [es]; exact hx
      | true =>
        have HT := hide (plk_put HP.out ht)
        have hc1 : k ≤ c := by omega
        have HO := hide (fun S' w' => own_drew2 (S := S) (S' := S') (T := fun k => k = g) (w := w) (w' := w'))
        have QQ := hide (H.out.below (below_drew w))
        clear ht H c0
        go_upto_region 5 with (fail)
        refine wp_region_noPanic ?_
        refine wp_region_T 22 (fun w' => w'.cell? ⟨g, 0, none⟩ = some (.slice A d.l.length c)) (by kernel_rfl) ?_
        generalize World.drew _ = wd at QQ HO ⊢
        refine anyT_take (i := 0) (v := ?ov0) (by simp only [List.getElem?_toArray, List.getElem?_cons_zero]; exact rfl) (by kernel_rfl) (by kernel_rfl) (fun _ _ _ h => h) (by kernel_rfl) (by kernel_rfl) (Or.inl ⟨by rfl, ?oy0⟩) (by with_reducible exact (QQ.out.c0)) ?or0
        case oy0 => (intro w hSw; (try dsimp only at hSw); go_simp; try with_reducible rfl)
        try simp only [Act.put, List.setIfInBounds_toArray, List.set_cons_zero, List.set_cons_succ]
        refine anyT_take (i := 2) (v := ?ov2) (by simp only [List.getElem?_toArray, List.getElem?_cons_succ, List.getElem?_cons_zero]; exact rfl) (by kernel_rfl) (by kernel_rfl) (fun _ _ _ h => h) (by kernel_rfl) (by kernel_rfl) (Or.inl ⟨by rfl, ?oy2⟩) (by with_reducible exact (QQ.out.c0)) ?or2
        case oy2 => (intro w hSw; (try dsimp only at hSw); go_simp; try with_reducible rfl)
        try simp only [Act.put, List.setIfInBounds_toArray, List.set_cons_zero, List.set_cons_succ]
        refine anyT_take (i := 3) (v := ?ov3) (by simp only [List.getElem?_toArray, List.getElem?_cons_succ, List.getElem?_cons_zero]; exact rfl) (by kernel_rfl) (by kernel_rfl) (fun _ _ _ h => h) (by kernel_rfl) (by kernel_rfl) (Or.inl ⟨by rfl, ?oy3⟩) (by with_reducible exact (QQ.out.c0)) ?or3
        case oy3 => (intro w hSw; (try dsimp only at hSw); go_simp; try with_reducible rfl)
        try simp only [Act.put, List.setIfInBounds_toArray, List.set_cons_zero, List.set_cons_succ]
        refine anyT_take (i := 4) (v := ?ov4) (by simp only [List.getElem?_toArray, List.getElem?_cons_succ, List.getElem?_cons_zero]; exact rfl) (by kernel_rfl) (by kernel_rfl) (fun _ _ _ h => h) (by kernel_rfl) (by kernel_rfl) (Or.inl ⟨by rfl, ?oy4⟩) (by with_reducible exact (QQ.out.c0)) ?or4
        case oy4 => (intro w hSw; (try dsimp only at hSw); go_simp; try with_reducible rfl)
        try simp only [Act.put, List.setIfInBounds_toArray, List.set_cons_zero, List.set_cons_succ]
        refine anyT_take (i := 5) (v := ?ov5) (by simp only [List.getElem?_toArray, List.getElem?_cons_succ, List.getElem?_cons_zero]; exact rfl) (by kernel_rfl) (by kernel_rfl) (fun _ _ _ h => h) (by kernel_rfl) (by kernel_rfl) (Or.inl ⟨by rfl, ?oy5⟩) (by with_reducible exact (QQ.out.c0)) ?or5
        case oy5 => (intro w hSw; (try dsimp only at hSw); go_simp; try with_reducible rfl)
        try simp only [Act.put, List.setIfInBounds_toArray, List.set_cons_zero, List.set_cons_succ]
        refine anyT_take (i := 6) (v := ?ov6) (by simp only [List.getElem?_toArray, List.getElem?_cons_succ, List.getElem?_cons_zero]; exact rfl) (by kernel_rfl) (by kernel_rfl) (fun _ _ _ h => h) (by kernel_rfl) (by kernel_rfl) (Or.inl ⟨by rfl, ?oy6⟩) (by with_reducible exact (QQ.out.c0)) ?or6
        case oy6 => (intro w hSw; (try dsimp only at hSw); go_simp; try with_reducible rfl)
        try simp only [Act.put, List.setIfInBounds_toArray, List.set_cons_zero, List.set_cons_succ]
        refine anyT_take (i := 7) (v := ?ov7) (by simp only [List.getElem?_toArray, List.getElem?_cons_succ, List.getElem?_cons_zero]; exact rfl) (by kernel_rfl) (by kernel_rfl) (fun _ _ _ h => h) (by kernel_rfl) (by kernel_rfl) (Or.inl ⟨by rfl, ?oy7⟩) (by with_reducible exact (QQ.out.c0)) ?or7
        case oy7 => (intro w hSw; (try dsimp only at hSw); go_simp; try with_reducible rfl)
        try simp only [Act.put, List.setIfInBounds_toArray, List.set_cons_zero, List.set_cons_succ]
        refine anyT_take (i := 9) (v := ?ov9) (by simp only [List.getElem?_toArray, List.getElem?_cons_succ, List.getElem?_cons_zero]; exact rfl) (by kernel_rfl) (by kernel_rfl) (fun _ _ _ h => h) (by kernel_rfl) (by kernel_rfl) (Or.inl ⟨by rfl, ?oy9⟩) (by with_reducible exact (QQ.out.c0)) ?or9
        case oy9 => (intro w hSw; (try dsimp only at hSw); go_simp; try with_reducible rfl)
        try simp only [Act.put, List.setIfInBounds_toArray, List.set_cons_zero, List.set_cons_succ]
        refine anyT_take (i := 10) (v := ?ov10) (by simp only [List.getElem?_toArray, List.getElem?_cons_succ, List.getElem?_cons_zero]; exact rfl) (by kernel_rfl) (by kernel_rfl) (fun _ _ _ h => h) (by kernel_rfl) (by kernel_rfl) (Or.inl ⟨by rfl, ?oy10⟩) (by with_reducible exact (QQ.out.c0)) ?or10
        case oy10 => (intro w hSw; (try dsimp only at hSw); go_simp; try with_reducible rfl)
        try simp only [Act.put, List.setIfInBounds_toArray, List.set_cons_zero, List.set_cons_succ]
        refine anyT_take (i := 13) (v := ?ov13) (by simp only [List.getElem?_toArray, List.getElem?_cons_succ, List.getElem?_cons_zero]; exact rfl) (by kernel_rfl) (by kernel_rfl) (fun _ _ _ h => h) (by kernel_rfl) (by kernel_rfl) (Or.inl ⟨by rfl, ?oy13⟩) (by with_reducible exact (QQ.out.c0)) ?or13
        case oy13 => (intro w hSw; (try dsimp only at hSw); go_simp; try with_reducible rfl)
        try simp only [Act.put, List.setIfInBounds_toArray, List.set_cons_zero, List.set_cons_succ]
        refine anyT_take (i := 14) (v := ?ov14) (by simp only [List.getElem?_toArray, List.getElem?_cons_succ, List.getElem?_cons_zero]; exact rfl) (by kernel_rfl) (by kernel_rfl) (fun _ _ _ h => h) (by kernel_rfl) (by kernel_rfl) (Or.inl ⟨by rfl, ?oy14⟩) (by with_reducible exact (QQ.out.c0)) ?or14
        case oy14 => (intro w hSw; (try dsimp only at hSw); go_simp; try with_reducible rfl)
        try simp only [Act.put, List.setIfInBounds_toArray, List.set_cons_zero, List.set_cons_succ]
        refine anyT_take (i := 15) (v := ?ov15) (by simp only [List.getElem?_toArray, List.getElem?_cons_succ, List.getElem?_cons_zero]; exact rfl) (by kernel_rfl) (by kernel_rfl) (fun _ _ _ h => h) (by kernel_rfl) (by kernel_rfl) (Or.inl ⟨by rfl, ?oy15⟩) (by with_reducible exact (QQ.out.c0)) ?or15
        case oy15 => (intro w hSw; (try dsimp only at hSw); go_simp; try with_reducible rfl)
        try simp only [Act.put, List.setIfInBounds_toArray, List.set_cons_zero, List.set_cons_succ]
        refine anyT_take (i := 16) (v := ?ov16) (by simp only [List.getElem?_toArray, List.getElem?_cons_succ, List.getElem?_cons_zero]; exact rfl) (by kernel_rfl) (by kernel_rfl) (fun _ _ _ h => h) (by kernel_rfl) (by kernel_rfl) (Or.inl ⟨by rfl, ?oy16⟩) (by with_reducible exact (QQ.out.c0)) ?or16
        case oy16 => (intro w hSw; (try dsimp only at hSw); go_simp; try with_reducible rfl)
        try simp only [Act.put, List.setIfInBounds_toArray, List.set_cons_zero, List.set_cons_succ]
        refine anyT_take (i := 17) (v := ?ov17) (by simp only [List.getElem?_toArray, List.getElem?_cons_succ, List.getElem?_cons_zero]; exact rfl) (by kernel_rfl) (by kernel_rfl) (fun _ _ _ h => h) (by kernel_rfl) (by kernel_rfl) (Or.inl ⟨by rfl, ?oy17⟩) (by with_reducible exact (QQ.out.c0)) ?or17
        case oy17 => (intro w hSw; (try dsimp only at hSw); go_simp; try with_reducible rfl)
        try simp only [Act.put, List.setIfInBounds_toArray, List.set_cons_zero, List.set_cons_succ]
        refine anyT_take (i := 18) (v := ?ov18) (by simp only [List.getElem?_toArray, List.getElem?_cons_succ, List.getElem?_cons_zero]; exact rfl) (by kernel_rfl) (by kernel_rfl) (fun _ _ _ h => h) (by kernel_rfl) (by kernel_rfl) (Or.inl ⟨by rfl, ?oy18⟩) (by with_reducible exact (QQ.out.c0)) ?or18
        case oy18 => (intro w hSw; (try dsimp only at hSw); go_simp; try with_reducible rfl)
        try simp only [Act.put, List.setIfInBounds_toArray, List.set_cons_zero, List.set_cons_succ]
        have HB := hide (Below.refl wd.heap.size wd)
        refine anyT_two (i := 1) (j := 11) (by kernel_rfl) (by simp only [List.getElem?_toArray, List.getElem?_cons_succ, List.getElem?_cons_zero]; exact rfl) (by simp only [List.getElem?_toArray, List.getElem?_cons_succ, List.getElem?_cons_zero]; exact rfl) (fun K hK => ?_) (fun K hK => ?_)
        · skip
          go_simp
          have HBN := hide (HB.out.alloc HB.out.size (.cells #[] 104))
          have HGN := hide (Fw.start HB.out)
          refine hK.out _ _ (fun _ => (QQ.out.below HBN.out).c0) ?_
          clear hK K HB
          try simp only [Act.put, List.setIfInBounds_toArray, List.set_cons_zero, List.set_cons_succ]
          generalize World.alloc wd _ = wa at HBN HGN ⊢
          have HB := HBN
          clear HBN
          have HG := HGN
          clear HGN
          refine anyT_two (i := 8) (j := 11) (by kernel_rfl) (by simp only [List.getElem?_toArray, List.getElem?_cons_succ, List.getElem?_cons_zero]; exact rfl) (by simp only [List.getElem?_toArray, List.getElem?_cons_succ, List.getElem?_cons_zero]; exact rfl) (fun K hK => ?_) (fun K hK => ?_)
          · skip
            refine step_append_fw (by rfl) (.tmp 47) (.tmp 53) (by rfl) (by rfl) HG.out _ k _ (R.take k) (by rfl) (by rw [List.length_take, HLEN.out]; omega) HNIL.out ((lies3_own (QQ.out.below HB.out).own).1.take k) k (by omega) (by omega) (fun g8 cap8 wb hG hg hcap2 => ?_)
            have HBN := hide hG.low
            have HGN := hide hG
            refine hK.out _ _ (fun _ => (QQ.out.below HBN.out).c0) ?_
            clear hK K HB HG hG hg hcap2
            try simp only [Act.put, List.setIfInBounds_toArray, List.set_cons_zero, List.set_cons_succ]
            have HB := HBN
            clear HBN
            have HG := HGN
            clear HGN
            refine anyT_one (i := 11) (by kernel_rfl) (by simp only [List.getElem?_toArray, List.getElem?_cons_succ, List.getElem?_cons_zero]; exact rfl) (fun K hK => ?_)
            go_simp
            have HBN := hide (HB.out.alloc HB.out.size (.cells #[.string nm, .slice none 0 0, .int .i64 0] 104))
            have HRN := hide (Row.new wb 104 #[.string nm, .slice none 0 0, .int .i64 0])
            have HGN := hide (HG.out.alloc (.cells #[.string nm, .slice none 0 0, .int .i64 0] 104))
            have NE := hide (Nat.ne_of_gt HG.out.lt.2)
            refine hK.out _ _ (fun _ => (QQ.out.below HBN.out).c0) ?_
            clear hK K HB HG
            try simp only [Act.put, List.setIfInBounds_toArray, List.set_cons_zero, List.set_cons_succ]
            generalize World.alloc wb _ = wc at HBN HGN HRN ⊢
            have HB := HBN
            clear HBN
            have HG := HGN
            clear HGN
            have HR := HRN
            clear HRN
            refine anyT_one (i := 12) (by kernel_rfl) (by simp only [List.getElem?_toArray, List.getElem?_cons_succ, List.getElem?_cons_zero]; exact rfl) (fun K hK => ?_)
            refine step_append_fw (by rfl) (.tmp 54) (.tmp 57) (by rfl) (by rfl) HG.out _ 1 _ [(⟨nm, [], 0⟩, (none, 0))] (by rfl) rfl (fun e => by cases e) (file_row HR.out) (k + 1) rfl (by omega) (fun g12 cap12 wd hG hg hcap2 => ?_)
            have HBN := hide hG.low
            have HGN := hide hG
            refine hK.out _ _ (fun _ => (QQ.out.below HBN.out).c0) ?_
            clear hK K HB HG hG hg hcap2 HR
            try simp only [Act.put, List.setIfInBounds_toArray, List.set_cons_zero, List.set_cons_succ]
            have HB := HBN
            clear HBN
            have HG := HGN
            clear HGN
            refine anyT_one (i := 19) (by kernel_rfl) (by simp only [List.getElem?_toArray, List.getElem?_cons_succ, List.getElem?_cons_zero]; exact rfl) (fun K hK => ?_)
            refine step_append_fw (by rfl) (.tmp 58) (.tmp 64) (by rfl) (by rfl) HG.out (part3 A c k) (d.l.length - k) _ (R.drop k) (by rfl) (by rw [List.length_drop, HLEN.out]) (part3_none HNIL.out) ((lies3_own (QQ.out.below HB.out).own).1.rest (by rw [HLEN.out]; exact HCAP.out) k) (d.l.length + 1) (by omega) (by omega) (fun g19 cap19 we hG hg hcap2 => ?_)
            have HBN := hide hG.low
            have HGN := hide hG
            refine hK.out _ _ (fun _ => (QQ.out.below HBN.out).c0) ?_
            clear hK K HB HG hG hg hcap2
            try simp only [Act.put, List.setIfInBounds_toArray, List.set_cons_zero, List.set_cons_succ]
            have HB := HBN
            clear HBN
            have HG := HGN
            clear HGN
            refine anyT_one (i := 20) (by kernel_rfl) (by simp only [List.getElem?_toArray, List.getElem?_cons_succ, List.getElem?_cons_zero]; exact rfl) (fun K hK => ?_)
            go_simp
            refine hK.out _ _ (fun _ => ((QQ.out.below HB.out).c0)) ?_
            clear hK K
            try simp only [Act.put, List.setIfInBounds_toArray, List.set_cons_zero, List.set_cons_succ]
            refine anyT_one (i := 21) (by kernel_rfl) (by simp only [List.getElem?_toArray, List.getElem?_cons_succ, List.getElem?_cons_zero]; exact rfl) (fun K hK => ?_)
            go_simp
            refine hK.out _ _ (fun _ => ((QQ.out.below HB.out).c0)) ?_
            clear hK K
            try simp only [Act.put, List.setIfInBounds_toArray, List.set_cons_zero, List.set_cons_succ]
            refine anyT_one (i := 22) (by kernel_rfl) (by simp only [List.getElem?_toArray, List.getElem?_cons_succ, List.getElem?_cons_zero]; exact rfl) (fun K hK => ?_)
            have f0 := (QQ.out.below HB.out).row.free 0
            have f1 := (QQ.out.below HB.out).c0
            have fin := hide (QQ.out.relist HG.out (fun x hx => by simp only [List.nil_append, List.mem_append, List.mem_singleton] at hx; rcases hx with (hx | rfl) | hx; exact .inl (List.mem_of_mem_take hx); exact .inr ⟨rfl, rfl⟩; exact .inl (List.mem_of_mem_drop hx)) (l' := plcL nm d.l) (by rw [HT.out.1, List.nil_append, List.map_append, List.map_append, List.map_take, List.map_drop, QQ.out.ls]; rfl))
            go_simp
            refine hK.out _ _ (fun e => absurd rfl e) ?_
            clear hK K f0 f1
            refine anyT_done (by kernel_rfl) ?_
            refine NoPanic.normal ?_
            go_wp2_with fail
            all_goals go_ret
            all_goals exact ⟨k, _, _, _, _, _, rfl, fin.out.1, HO.out _ _ (Own.more fin.out.2.1) fin.out.2.2, HT.out.2, rfl⟩
          · skip
            go_simp
            have HBN := hide (HB.out.alloc HB.out.size (.cells #[.string nm, .slice none 0 0, .int .i64 0] 104))
            have HRN := hide (Row.new wa 104 #[.string nm, .slice none 0 0, .int .i64 0])
            have HGN := hide (HG.out.alloc (.cells #[.string nm, .slice none 0 0, .int .i64 0] 104))
            have NE := hide (Nat.ne_of_gt HG.out.lt.2)
            refine hK.out _ _ (fun _ => (QQ.out.below HBN.out).c0) ?_
            clear hK K HB HG
            try simp only [Act.put, List.setIfInBounds_toArray, List.set_cons_zero, List.set_cons_succ]
            generalize World.alloc wa _ = wb at HBN HGN HRN ⊢
            have HB := HBN
            clear HBN
            have HG := HGN
            clear HGN
            have HR := HRN
            clear HRN
            refine anyT_one (i := 8) (by kernel_rfl) (by simp only [List.getElem?_toArray, List.getElem?_cons_succ, List.getElem?_cons_zero]; exact rfl) (fun K hK => ?_)
            refine step_append_fw (by rfl) (.tmp 47) (.tmp 53) (by rfl) (by rfl) HG.out _ k _ (R.take k) (by rfl) (by rw [List.length_take, HLEN.out]; omega) HNIL.out ((lies3_own (QQ.out.below HB.out).own).1.take k) k (by omega) (by omega) (fun g8 cap8 wc hG hg hcap2 => ?_)
            have HBN := hide hG.low
            have HGN := hide hG
            have HRN := hide (HR.out.grown hg (fun e => NE.out (Option.some.inj e)))
            refine hK.out _ _ (fun _ => (QQ.out.below HBN.out).c0) ?_
            clear hK K HB HG hG hg hcap2 HR NE
            try simp only [Act.put, List.setIfInBounds_toArray, List.set_cons_zero, List.set_cons_succ]
            have HB := HBN
            clear HBN
            have HG := HGN
            clear HGN
            have HR := HRN
            clear HRN
            refine anyT_one (i := 12) (by kernel_rfl) (by simp only [List.getElem?_toArray, List.getElem?_cons_succ, List.getElem?_cons_zero]; exact rfl) (fun K hK => ?_)
            refine step_append_fw (by rfl) (.tmp 54) (.tmp 57) (by rfl) (by rfl) HG.out _ 1 _ [(⟨nm, [], 0⟩, (none, 0))] (by rfl) rfl (fun e => by cases e) (file_row HR.out) (k + 1) rfl (by omega) (fun g12 cap12 wd hG hg hcap2 => ?_)
            have HBN := hide hG.low
            have HGN := hide hG
            refine hK.out _ _ (fun _ => (QQ.out.below HBN.out).c0) ?_
            clear hK K HB HG hG hg hcap2 HR
            try simp only [Act.put, List.setIfInBounds_toArray, List.set_cons_zero, List.set_cons_succ]
            have HB := HBN
            clear HBN
            have HG := HGN
            clear HGN
            refine anyT_one (i := 19) (by kernel_rfl) (by simp only [List.getElem?_toArray, List.getElem?_cons_succ, List.getElem?_cons_zero]; exact rfl) (fun K hK => ?_)
            refine step_append_fw (by rfl) (.tmp 58) (.tmp 64) (by rfl) (by rfl) HG.out (part3 A c k) (d.l.length - k) _ (R.drop k) (by rfl) (by rw [List.length_drop, HLEN.out]) (part3_none HNIL.out) ((lies3_own (QQ.out.below HB.out).own).1.rest (by rw [HLEN.out]; exact HCAP.out) k) (d.l.length + 1) (by omega) (by omega) (fun g19 cap19 we hG hg hcap2 => ?_)
            have HBN := hide hG.low
            have HGN := hide hG
            refine hK.out _ _ (fun _ => (QQ.out.below HBN.out).c0) ?_
            clear hK K HB HG hG hg hcap2
            try simp only [Act.put, List.setIfInBounds_toArray, List.set_cons_zero, List.set_cons_succ]
            have HB := HBN
            clear HBN
            have HG := HGN
            clear HGN
            refine anyT_one (i := 20) (by kernel_rfl) (by simp only [List.getElem?_toArray, List.getElem?_cons_succ, List.getElem?_cons_zero]; exact rfl) (fun K hK => ?_)
            go_simp
            refine hK.out _ _ (fun _ => ((QQ.out.below HB.out).c0)) ?_
            clear hK K
            try simp only [Act.put, List.setIfInBounds_toArray, List.set_cons_zero, List.set_cons_succ]
            refine anyT_one (i := 21) (by kernel_rfl) (by simp only [List.getElem?_toArray, List.getElem?_cons_succ, List.getElem?_cons_zero]; exact rfl) (fun K hK => ?_)
            go_simp
            refine hK.out _ _ (fun _ => ((QQ.out.below HB.out).c0)) ?_
            clear hK K
            try simp only [Act.put, List.setIfInBounds_toArray, List.set_cons_zero, List.set_cons_succ]
            refine anyT_one (i := 22) (by kernel_rfl) (by simp only [List.getElem?_toArray, List.getElem?_cons_succ, List.getElem?_cons_zero]; exact rfl) (fun K hK => ?_)
            have f0 := (QQ.out.below HB.out).row.free 0
            have f1 := (QQ.out.below HB.out).c0
            have fin := hide (QQ.out.relist HG.out (fun x hx => by simp only [List.nil_append, List.mem_append, List.mem_singleton] at hx; rcases hx with (hx | rfl) | hx; exact .inl (List.mem_of_mem_take hx); exact .inr ⟨rfl, rfl⟩; exact .inl (List.mem_of_mem_drop hx)) (l' := plcL nm d.l) (by rw [HT.out.1, List.nil_append, List.map_append, List.map_append, List.map_take, List.map_drop, QQ.out.ls]; rfl))
            go_simp
            refine hK.out _ _ (fun e => absurd rfl e) ?_
            clear hK K f0 f1
            refine anyT_done (by kernel_rfl) ?_
            refine NoPanic.normal ?_
            go_wp2_with fail
            all_goals go_ret
            all_goals exact ⟨k, _, _, _, _, _, rfl, fin.out.1, HO.out _ _ (Own.more fin.out.2.1) fin.out.2.2, HT.out.2, rfl⟩
        · skip
          go_simp
          have HBN := hide (HB.out.alloc HB.out.size (.cells #[.string nm, .slice none 0 0, .int .i64 0] 104))
          have HRN := hide (Row.new wd 104 #[.string nm, .slice none 0 0, .int .i64 0])
          refine hK.out _ _ (fun _ => (QQ.out.below HBN.out).c0) ?_
          clear hK K HB
          try simp only [Act.put, List.setIfInBounds_toArray, List.set_cons_zero, List.set_cons_succ]
          generalize World.alloc wd _ = wa at HBN HRN ⊢
          have HB := HBN
          clear HBN
          have HR := HRN
          clear HRN
          refine anyT_one (i := 1) (by kernel_rfl) (by simp only [List.getElem?_toArray, List.getElem?_cons_succ, List.getElem?_cons_zero]; exact rfl) (fun K hK => ?_)
          go_simp
          have HBN := hide (HB.out.alloc HB.out.size (.cells #[] 104))
          have HGN := hide (Fw.start HB.out)
          have HRN := hide (HR.out.alloc (.cells #[] 104))
          have NE := hide (Nat.ne_of_lt HR.out.lt)
          refine hK.out _ _ (fun _ => (QQ.out.below HBN.out).c0) ?_
          clear hK K HB HR
          try simp only [Act.put, List.setIfInBounds_toArray, List.set_cons_zero, List.set_cons_succ]
          generalize World.alloc wa _ = wb at HBN HGN HRN ⊢
          have HB := HBN
          clear HBN
          have HG := HGN
          clear HGN
          have HR := HRN
          clear HRN
          refine anyT_one (i := 8) (by kernel_rfl) (by simp only [List.getElem?_toArray, List.getElem?_cons_succ, List.getElem?_cons_zero]; exact rfl) (fun K hK => ?_)
          refine step_append_fw (by rfl) (.tmp 47) (.tmp 53) (by rfl) (by rfl) HG.out _ k _ (R.take k) (by rfl) (by rw [List.length_take, HLEN.out]; omega) HNIL.out ((lies3_own (QQ.out.below HB.out).own).1.take k) k (by omega) (by omega) (fun g8 cap8 wc hG hg hcap2 => ?_)
          have HBN := hide hG.low
          have HGN := hide hG
          have HRN := hide (HR.out.grown hg (fun e => NE.out (Option.some.inj e)))
          refine hK.out _ _ (fun _ => (QQ.out.below HBN.out).c0) ?_
          clear hK K HB HG hG hg hcap2 HR NE
          try simp only [Act.put, List.setIfInBounds_toArray, List.set_cons_zero, List.set_cons_succ]
          have HB := HBN
          clear HBN
          have HG := HGN
          clear HGN
          have HR := HRN
          clear HRN
          refine anyT_one (i := 12) (by kernel_rfl) (by simp only [List.getElem?_toArray, List.getElem?_cons_succ, List.getElem?_cons_zero]; exact rfl) (fun K hK => ?_)
          refine step_append_fw (by rfl) (.tmp 54) (.tmp 57) (by rfl) (by rfl) HG.out _ 1 _ [(⟨nm, [], 0⟩, (none, 0))] (by rfl) rfl (fun e => by cases e) (file_row HR.out) (k + 1) rfl (by omega) (fun g12 cap12 wd hG hg hcap2 => ?_)
          have HBN := hide hG.low
          have HGN := hide hG
          refine hK.out _ _ (fun _ => (QQ.out.below HBN.out).c0) ?_
          clear hK K HB HG hG hg hcap2 HR
          try simp only [Act.put, List.setIfInBounds_toArray, List.set_cons_zero, List.set_cons_succ]
          have HB := HBN
          clear HBN
          have HG := HGN
          clear HGN
          refine anyT_one (i := 19) (by kernel_rfl) (by simp only [List.getElem?_toArray, List.getElem?_cons_succ, List.getElem?_cons_zero]; exact rfl) (fun K hK => ?_)
          refine step_append_fw (by rfl) (.tmp 58) (.tmp 64) (by rfl) (by rfl) HG.out (part3 A c k) (d.l.length - k) _ (R.drop k) (by rfl) (by rw [List.length_drop, HLEN.out]) (part3_none HNIL.out) ((lies3_own (QQ.out.below HB.out).own).1.rest (by rw [HLEN.out]; exact HCAP.out) k) (d.l.length + 1) (by omega) (by omega) (fun g19 cap19 we hG hg hcap2 => ?_)
          have HBN := hide hG.low
          have HGN := hide hG
          refine hK.out _ _ (fun _ => (QQ.out.below HBN.out).c0) ?_
          clear hK K HB HG hG hg hcap2
          try simp only [Act.put, List.setIfInBounds_toArray, List.set_cons_zero, List.set_cons_succ]
          have HB := HBN
          clear HBN
          have HG := HGN
          clear HGN
          refine anyT_one (i := 20) (by kernel_rfl) (by simp only [List.getElem?_toArray, List.getElem?_cons_succ, List.getElem?_cons_zero]; exact rfl) (fun K hK => ?_)
          go_simp
          refine hK.out _ _ (fun _ => ((QQ.out.below HB.out).c0)) ?_
          clear hK K
          try simp only [Act.put, List.setIfInBounds_toArray, List.set_cons_zero, List.set_cons_succ]
          refine anyT_one (i := 21) (by kernel_rfl) (by simp only [List.getElem?_toArray, List.getElem?_cons_succ, List.getElem?_cons_zero]; exact rfl) (fun K hK => ?_)
          go_simp
          refine hK.out _ _ (fun _ => ((QQ.out.below HB.out).c0)) ?_
          clear hK K
          try simp only [Act.put, List.setIfInBounds_toArray, List.set_cons_zero, List.set_cons_succ]
          refine anyT_one (i := 22) (by kernel_rfl) (by simp only [List.getElem?_toArray, List.getElem?_cons_succ, List.getElem?_cons_zero]; exact rfl) (fun K hK => ?_)
          have f0 := (QQ.out.below HB.out).row.free 0
          have f1 := (QQ.out.below HB.out).c0
          have fin := hide (QQ.out.relist HG.out (fun x hx => by simp only [List.nil_append, List.mem_append, List.mem_singleton] at hx; rcases hx with (hx | rfl) | hx; exact .inl (List.mem_of_mem_take hx); exact .inr ⟨rfl, rfl⟩; exact .inl (List.mem_of_mem_drop hx)) (l' := plcL nm d.l) (by rw [HT.out.1, List.nil_append, List.map_append, List.map_append, List.map_take, List.map_drop, QQ.out.ls]; rfl))
          go_simp
          refine hK.out _ _ (fun e => absurd rfl e) ?_
          clear hK K f0 f1
          refine anyT_done (by kernel_rfl) ?_
          refine NoPanic.normal ?_
          go_wp2_with fail
          all_goals go_ret
          all_goals exact ⟨k, _, _, _, _, _, rfl, fin.out.1, HO.out _ _ (Own.more fin.out.2.1) fin.out.2.2, HT.out.2, rfl⟩
end
end Go.Proofs.YtkmcnhjfnjikaaaGreatDoor
/- Remove, Sync, Arm, Read of the document's disk, and a new one. Conditions: the slice has room. -/
namespace Go.Proofs.YtkmcnhjfnjikaaaGreatDoor
open Go.RowKit Go.Maps
theorem up_inj {l : List Fl} (hu : Up l) {i j : Nat} {x y : Fl} (hi : l[i]? = some x) (hj : l[j]? = some y) (e : x.nm = y.nm) : i = j := by
  obtain ⟨h1, e1⟩ := List.getElem?_eq_some_iff.1 hi
  obtain ⟨h2, e2⟩ := List.getElem?_eq_some_iff.1 hj
  rcases Nat.lt_trichotomy i j with h | h | h
  · have := (List.pairwise_iff_getElem.1 hu) i j h1 h2 h
    rw [e1, e2, e, lt_self] at this; cases this
  · exact h
  · have := (List.pairwise_iff_getElem.1 hu) j i h2 h1 h
    rw [e1, e2, e, lt_self] at this; cases this
section
variable {S : Nat → Prop} {w : World} {g : Nat} {R : List (Fl × Ps)} {A : Option Addr} {c : Nat} {d : DS} {nm : ByteArray}
theorem at_no (h : Rp S w g R A c d) (hln : d.l.length ≤ 1000000) (hf : find nm d.l = none) :
    Calls Tryz.prog 94 #[.pointer (some ⟨g, 0, none⟩), .string nm] w fun e w' => e = .returned (.int .i64 (-1)) ∧ w = w' :=
  (at_any h nm hln).mono fun e w' ⟨⟨v, he, hv⟩, hw⟩ => by
    rcases hv with ⟨rfl, _⟩ | ⟨k, f, rfl, hk, e2⟩
    · exact ⟨he, hw⟩
    · exact absurd e2 (find_none.1 hf f (List.mem_of_getElem? hk))
theorem at_yes (h : Rp S w g R A c d) (hu : Up d.l) (hln : d.l.length ≤ 1000000) {k : Nat} {f : Fl} (hk : d.l[k]? = some f) (hn : f.nm = nm) :
    Calls Tryz.prog 94 #[.pointer (some ⟨g, 0, none⟩), .string nm] w fun e w' => e = .returned (.int .i64 (k : Nat)) ∧ w = w' :=
  (at_any h nm hln).mono fun e w' ⟨⟨v, he, hv⟩, hw⟩ => by
    rcases hv with ⟨_, h2⟩ | ⟨i, f2, rfl, hi, e2⟩
    · exact absurd hn (find_none.1 h2 f (List.mem_of_getElem? hk))
    · obtain rfl := up_inj hu hi hk (e2.trans hn.symm)
      exact ⟨he, hw⟩
theorem find_ix {l : List Fl} {f : Fl} (h : find nm l = some f) : ∃ k : Nat, l[k]? = some f ∧ f.nm = nm := by
  obtain ⟨hm, e⟩ := find_mem h
  obtain ⟨k, hk⟩ := List.mem_iff_getElem?.1 hm
  exact ⟨k, hk, e⟩
theorem Own.grown {S : Nat → Prop} {w w' : World} {g : Nat} (hS : S g) (hg : w.grownBy w' (some g)) : Own S w S w' := ⟨Turn.of_grown hg (fun k e => by injection e with e; rw [← e]; exact hS), fun _ hk => .inl hk⟩
theorem Rp.rk (h : Rp S w g R A c d) (hok : DOk d) : Rk S w g d := ⟨hok, R, A, c, h⟩
set_option maxHeartbeats 1000000 in
theorem rrem_any (h : Rp S w g R A c d) (hok : DOk d) (hln : d.l.length ≤ 1000000) :
    Calls Tryz.prog 52 #[.pointer (some ⟨g, 0, none⟩), .string nm] w (Chr S w g (remE d nm) (remS d nm)) := by
  have c3 : w.cell? ⟨g, 3, none⟩ = some (.bool d.off) := h.row.cell 3
  unfold remE remS
  cases ho : d.off with
  | true =>
    rw [ho] at c3
    have HA := hide (at_any h nm hln)
    have H := hide (Chr.same (h.rk hok) 10)
    simp only [if_true]
    clear h hok ho
    go_enter Tryz.func52, Tryz.ntmps52
    go_wp2_with (go_at_call 94; (with_reducible refine HA.out.mono ?_); rintro e w' ⟨⟨v, rfl, hv⟩, rfl⟩)
    go_ret
    exact H.out
  | false =>
    rw [ho] at c3
    cases hf : find nm d.l with
    | none =>
      have HA := hide (at_no h hln hf)
      have H := hide (Chr.same (h.rk hok) 8)
      simp only [Option.isNone_none, if_true, Bool.false_eq_true, if_false]
      clear h hok ho hf
      go_enter Tryz.func52, Tryz.ntmps52
      go_wp2_with (go_at_call 94; (with_reducible refine HA.out.mono ?_); rintro e w' ⟨rfl, rfl⟩)
      go_ret
      exact H.out
    | some f =>
      obtain ⟨k, hk, hn⟩ := find_ix hf
      have HA := hide (at_yes h hok.up hln hk hn)
      have hPW := power_any h hok
      simp only [Option.isNone_some, Bool.false_eq_true, if_false]
      by_cases h0 : d.left = 0
      · simp only [h0, if_true]
        have hsp : d.spends = false := by unfold DS.spends; rw [h0]; rfl
        rw [hsp] at hPW
        have HP := hide hPW
        have H := hide (show ∀ w', Rp S w' g R A c d.spent → w.grownBy w' (some g) → Chr S w g 10 d.spent (.returned (.int .i64 10)) w' from fun w' h1 h2 => ⟨rfl, S, h1.rk (dok_spent hok), Own.grown h.sg h2⟩)
        clear h hok ho hf hk hn h0 hsp hPW
        go_enter Tryz.func52, Tryz.ntmps52
        go_wp2_with (first
          | (go_at_call 94; (with_reducible refine HA.out.mono ?_); rintro e w' ⟨rfl, rfl⟩)
          | (go_at_call 67; (with_reducible refine HP.out.mono ?_); rintro e w1 ⟨rfl, hR, hG⟩))
        go_ret
        exact H.out _ hR hG
      · simp only [h0, if_false]
        have hsp : d.spends = true := by unfold DS.spends; simpa using h0
        rw [hsp] at hPW
        have HP := hide hPW
        have hkl : k < d.spent.l.length := by rw [spent_l]; exact (List.getElem?_eq_some_iff.1 hk).1
        have HO := hide (fun w' (h1 : Rp S w' g R A c d.spent) => out_any h1 k hkl (by rw [spent_l]; exact hln))
        have H := hide (show ∀ w' w2, w.grownBy w' (some g) → (∃ S', (∃ R' A' c', Rp S' w2 g R' A' c' { d.spent with l := d.spent.l.take k ++ d.spent.l.drop (k + 1) }) ∧ Own S w' S' w2) → Chr S w g 0 { d.spent with l := delF nm d.l } (.returned (.int .i64 0)) w2 from by
          rintro w' w2 hG ⟨S', ⟨R', A', c', h1⟩, h2⟩
          have hok2 : DOk { d.spent with l := delF nm d.l } := by have := dok_del (dok_spent hok) nm; rw [spent_l] at this; exact this
          rw [spent_l, ← delF_at hok.up hk, hn] at h1
          exact ⟨rfl, S', h1.rk hok2, (Own.grown h.sg hG).trans h2⟩)
        clear h hok ho hf hk hn h0 hsp hPW hkl
        go_enter Tryz.func52, Tryz.ntmps52
        go_wp2_with (first
          | (go_at_call 94; (with_reducible refine HA.out.mono ?_); rintro e w' ⟨rfl, rfl⟩)
          | (go_at_call 67; (with_reducible refine HP.out.mono ?_); rintro e w1 ⟨rfl, hR, hG⟩)
          | (go_at_call 95; (with_reducible refine (HO.out _ hR).mono ?_); rintro e w2 ⟨rfl, S', R', A', c', hR2, hO2, _⟩))
        go_ret
        exact H.out _ _ hG ⟨S', ⟨R', A', c', hR2⟩, hO2⟩
set_option maxHeartbeats 1000000 in
theorem rarm_any (h : Rp S w g R A c d) (n : Int) :
    Calls Tryz.prog 23 #[.pointer (some ⟨g, 0, none⟩), .int .i64 n] w fun e w' => e = .returned (.tuple #[]) ∧ Rp S w' g R A c (armS d n) ∧ w.grownBy w' (some g) := by
  have c2 : w.cell? ⟨g, 2, none⟩ = some (.int .i64 d.left) := h.row.cell 2
  have f2 : w.frozen? ⟨g, 2, none⟩ = false := h.row.free 2
  have hg := grown_put (grown_refl w (some g)) 2 (.int .i64 (max n (-1)))
  have H := hide (show Rp S (w.setCell ⟨g, 2, none⟩ (.int .i64 (max n (-1)))) g R A c (armS d n) ∧ w.grownBy (w.setCell ⟨g, 2, none⟩ (.int .i64 (max n (-1)))) (some g) from
    ⟨h.cells (e := armS d n) hg (h.row.put 2 (.int .i64 (max n (-1)))) rfl, hg⟩)
  clear h hg
  go_enter Tryz.func23, Tryz.ntmps23
  go_wp2
  go_end0
  exact ⟨rfl, H.out⟩
set_option maxHeartbeats 1000000 in
theorem rread_no (h : Rp S w g R A c d) (hln : d.l.length ≤ 1000000) (hf : find nm d.l = none) :
    Calls Tryz.prog 55 #[.pointer (some ⟨g, 0, none⟩), .string nm] w fun e w' => e = .returned (.tuple #[.slice none 0 0, .bool false]) ∧ w = w' := by
  have HA := hide (at_no h hln hf)
  clear h hf
  go_enter Tryz.func55, Tryz.ntmps55
  go_wp2_with (go_at_call 94; (with_reducible refine HA.out.mono ?_); rintro e w' ⟨rfl, rfl⟩)
  go_ret2
  exact ⟨rfl, rfl⟩
set_option maxHeartbeats 1000000 in
theorem rread_yes (h : Rp S w g R A c d) (hu : Up d.l) (hln : d.l.length ≤ 1000000) {f : Fl} (hf : find nm d.l = some f) :
    Calls Tryz.prog 55 #[.pointer (some ⟨g, 0, none⟩), .string nm] w fun e w' => (∃ B cb, e = .returned (.tuple #[.slice B f.dt.length cb, .bool true]) ∧ Lies w B f.dt ∧ (B = none → cb = 0)) ∧ w = w' := by
  obtain ⟨k, hk, hn⟩ := find_ix hf
  have HA := hide (at_yes h hu hln hk hn)
  have c0 : w.cell? ⟨g, 0, none⟩ = some (.slice A d.l.length c) := h.row.cell 0
  obtain ⟨b, off, s, rfl, hs, hkl, n0, n1, n2⟩ := h.at_ hk
  have H := hide (show Lies w s.A f.dt ∧ (s.A = none → s.2 = 0) from by
    have ho := h.dat _ (List.mem_of_getElem? hs)
    refine ⟨Lies.of_own ho, fun e => ?_⟩
    rcases ho.2 with ⟨hv, _⟩ | ⟨q, cap, cur, hv, _⟩
    · injection hv
    · injection hv with h1; rw [e] at h1; cases h1)
  clear h hf hu hk hs
  go_enter Tryz.func55, Tryz.ntmps55
  go_wp2_with (go_at_call 94; (with_reducible refine HA.out.mono ?_); rintro e w' ⟨rfl, rfl⟩)
  go_ret2
  exact ⟨⟨_, _, rfl, H.out⟩, rfl⟩
end
end Go.Proofs.YtkmcnhjfnjikaaaGreatDoor
/- Sync of the document's disk; a new disk. Conditions: the slice has room. -/
namespace Go.Proofs.YtkmcnhjfnjikaaaGreatDoor
open Go.RowKit Go.Maps
theorem own_drewr {S S' : Nat → Prop} {w w' : World} (h : Own S w S' w') : Own S w S' w'.drew := ⟨⟨h.1.1, h.1.2, h.1.3, h.1.4, h.1.5⟩, h.2⟩
section
variable {S : Nat → Prop} {w : World} {g : Nat} {R : List (Fl × Ps)} {A : Option Addr} {c : Nat} {d : DS} {nm : ByteArray}
/-- What a region that stores into a file's cells looks at. -/
theorem Rp.look {b off : Nat} {s : Ps} {f : Fl} {k : Nat} (h : Rp S w g R (some ⟨b, off, none⟩) c d) (hs : R[k]? = some (f, s)) : w.cell? ⟨g, 0, none⟩ = some (.slice (some ⟨b, off, none⟩) d.l.length c) ∧
    w.cell? ⟨b, off + k * 3 + 1, none⟩ = some (.slice s.A f.dt.length s.2) ∧ w.cell? ⟨b, off + k * 3 + 2, none⟩ = some (.int .i64 f.kp) ∧ w.frozen? ⟨b, off + k * 3 + 1, none⟩ = false ∧ w.frozen? ⟨b, off + k * 3 + 2, none⟩ = false := by
  have hk : d.l[k]? = some f := by rw [← h.ls, List.getElem?_map, hs]; rfl
  obtain ⟨b', off', s', e, hs', hkl, n0, n1, n2⟩ := h.at_ hk
  injection e with e
  injection e with e1 e2
  subst e1 e2
  rw [hs] at hs'
  injection hs' with hs'
  injection hs' with _ hs'
  subst hs'
  exact ⟨h.row.cell 0, n1, n2, (own3_put h.own hs (i := 1) (u := .slice s.A f.dt.length s.2) (y := (f, s)) (by omega) rfl rfl).2, (own3_put h.own hs (i := 2) (u := .int .i64 f.kp) (y := (f, s)) (by omega) rfl rfl).2⟩
set_option maxRecDepth 100000 in
set_option maxHeartbeats 4000000 in
theorem rsync_any (h : Rp S w g R A c d) (hok : DOk d) (hln : d.l.length ≤ 1000000) :
    Calls Tryz.prog 53 #[.pointer (some ⟨g, 0, none⟩), .string nm] w (Chr S w g (synE d nm) (synS d nm)) := by
  have c3 : w.cell? ⟨g, 3, none⟩ = some (.bool d.off) := h.row.cell 3
  unfold synE synS
  cases ho : d.off with
  | true =>
    rw [ho] at c3
    have HA := hide (at_any h nm hln)
    have H := hide (Chr.same (h.rk hok) 10)
    simp only [if_true]
    clear h hok ho
    go_enter Tryz.func53, Tryz.ntmps53
    go_wp2_with (go_at_call 94; (with_reducible refine HA.out.mono ?_); rintro e w' ⟨⟨v, rfl, hv⟩, rfl⟩)
    go_ret
    exact H.out
  | false =>
    rw [ho] at c3
    cases hf : find nm d.l with
    | none =>
      have HA := hide (at_no h hln hf)
      have H := hide (Chr.same (h.rk hok) 8)
      simp only [Option.isNone_none, if_true, Bool.false_eq_true, if_false]
      clear h hok ho hf
      go_enter Tryz.func53, Tryz.ntmps53
      go_wp2_with (go_at_call 94; (with_reducible refine HA.out.mono ?_); rintro e w' ⟨rfl, rfl⟩)
      go_ret
      exact H.out
    | some f =>
      obtain ⟨k, hk, hn⟩ := find_ix hf
      have HA := hide (at_yes h hok.up hln hk hn)
      have hPW := power_any h hok
      simp only [Option.isNone_some, Bool.false_eq_true, if_false]
      by_cases h0 : d.left = 0
      · simp only [h0, if_true]
        have hsp : d.spends = false := by unfold DS.spends; rw [h0]; rfl
        rw [hsp] at hPW
        have HP := hide hPW
        have H := hide (show ∀ w', Rp S w' g R A c d.spent → w.grownBy w' (some g) → Chr S w g 10 d.spent (.returned (.int .i64 10)) w' from fun w' h1 h2 => ⟨rfl, S, h1.rk (dok_spent hok), Own.grown h.sg h2⟩)
        clear h hok ho hf hk hn h0 hsp hPW
        go_enter Tryz.func53, Tryz.ntmps53
        go_wp2_with (first
          | (go_at_call 94; (with_reducible refine HA.out.mono ?_); rintro e w' ⟨rfl, rfl⟩)
          | (go_at_call 67; (with_reducible refine HP.out.mono ?_); rintro e w1 ⟨rfl, hR, hG⟩))
        go_ret
        exact H.out _ hR hG
      · simp only [h0, if_false]
        have hsp : d.spends = true := by unfold DS.spends; simpa using h0
        rw [hsp] at hPW
        obtain ⟨b, off, s, rfl, hs, hkl, _⟩ := h.at_ hk
        have HP := hide hPW
        have HF := hide (show ∀ w', Rp S w' g R (some ⟨b, off, none⟩) c d.spent → _ from fun w' h1 => h1.look hs)
        have HLL := hide (spent_l d)
        have H := hide (show ∀ w', Rp S w' g R (some ⟨b, off, none⟩) c d.spent → w.grownBy w' (some g) → Chr S w g 0 { d.spent with l := putF ⟨nm, f.dt, f.dt.length⟩ d.l } (.returned (.int .i64 0)) ((w'.setCell ⟨b, off + k * 3 + 2, none⟩ (.int .i64 f.dt.length)).drew) from by
          intro w' h1 hG
          obtain ⟨⟨h2, hT⟩, _⟩ := h1.store (Below.refl _ _) (i := 2) (u := .int .i64 f.dt.length) (y := (⟨f.nm, f.dt, f.dt.length⟩, s)) rfl hs (by omega) rfl (h1.dat (f, s) (List.mem_of_getElem? hs)) (fun r hr => .inl (h1.sd (f, s) (List.mem_of_getElem? hs) r hr))
          have hm := List.mem_of_getElem? hk
          have hok2 : DOk { d.spent with l := putF ⟨nm, f.dt, f.dt.length⟩ d.l } := by
            have := dok_put (dok_spent hok) ⟨nm, f.dt, f.dt.length⟩ (Nat.le_refl _) (by rw [← hn]; exact hok.nm f hm) (hok.oct f hm) (by
              rw [spent_l, spent_q]; simp only; rw [hf]; simp only [lenO]; have := hok.tot; omega)
            rw [spent_l] at this; exact this
          rw [spent_l] at h2
          rw [show d.l.set k (⟨f.nm, f.dt, f.dt.length⟩ : Fl) = putF ⟨nm, f.dt, f.dt.length⟩ d.l from by rw [hn]; exact (putF_set hn.symm hok.up hk).symm] at h2
          exact ⟨rfl, _, (h2.below (below_drew _)).rk hok2, own_drewr ((Own.grown h.sg hG).trans (Own.more hT))⟩)
        clear h hok ho hf hk hn h0 hsp hPW hs
        go_enter Tryz.func53, Tryz.ntmps53
        go_upto_region 8 with (first
          | (go_at_call 94; (with_reducible refine HA.out.mono ?_); rintro e w' ⟨rfl, rfl⟩)
          | (go_at_call 67; (with_reducible refine HP.out.mono ?_); rintro e w1 ⟨rfl, hR, hG⟩))
        obtain ⟨q0, q1, q2, _, z2⟩ := HF.out _ hR
        rw [HLL.out] at q0
        have HH := hide (H.out _ hR hG)
        clear hR hG H HF HP HA c3
        go_region
        go_wp2
        go_ret
        exact HH.out
set_option maxHeartbeats 1000000 in
theorem rnew_no (q : Int) (w : World) (hq : q < 0 ∨ 1048576 < q) :
    Calls Tryz.prog 17 #[.int .i64 q] w fun e w' => e = .returned (.tuple #[.pointer none, .int .i64 1]) ∧ w = w' := by
  rcases hq with hq | hq
  · go_enter Tryz.func17, Tryz.ntmps17
    go_wp2
    go_ret2
    exact ⟨rfl, rfl⟩
  · have h2 : ¬ q < 0 := by omega
    go_enter Tryz.func17, Tryz.ntmps17
    go_wp2
    go_ret2
    exact ⟨rfl, rfl⟩
theorem rk_new (w : World) (q : Int) (hq : 0 ≤ q ∧ q ≤ 1048576) :
    Rk (fun k => k = w.heap.size) (w.alloc (.cells #[.slice none 0 0, .int .i64 q, .int .i64 (-1), .bool false] 94)) w.heap.size (newS q) := by
  refine ⟨⟨List.Pairwise.nil, hq, ?_, fun f hf => (by cases hf), fun f hf => (by cases hf), fun f hf => (by cases hf), ?_⟩, [], none, 0, fun k hk => ?_, Row.new _ _ _, rfl, ⟨rfl, .inl ⟨rfl, rfl⟩⟩, fun x hx => (by cases hx), rfl, fun a ha => (by cases ha), fun x hx => (by cases hx)⟩
  · unfold newS total; simpa using hq.1
  · unfold newS; simp
  · simp; omega
set_option maxHeartbeats 1000000 in
theorem rnew_yes (q : Int) (w : World) (hq : 0 ≤ q ∧ q ≤ 1048576) :
    Calls Tryz.prog 17 #[.int .i64 q] w fun e w' => e = .returned (.tuple #[.pointer (some ⟨w.heap.size, 0, none⟩), .int .i64 0]) ∧ Rk (fun k => k = w.heap.size) w' w.heap.size (newS q) ∧ Below w.heap.size w w' := by
  have H := hide (rk_new w q hq)
  go_enter Tryz.func17, Tryz.ntmps17
  go_wp2
  go_ret2
  exact ⟨rfl, H.out, kept_alloc (kept_refl w) _⟩
end
end Go.Proofs.YtkmcnhjfnjikaaaGreatDoor
