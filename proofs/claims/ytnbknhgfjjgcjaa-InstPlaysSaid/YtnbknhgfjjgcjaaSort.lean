/- A slice of instances, sorted by inst's own comparison. Conditions: its length has room. -/
import Derived.Test.YtnbknhgfjjgcjaaColl
import Derived.Test.YtnbknhgfjjgcjaaSortlay
import Derived.Shelf.SlSortCmp.WholeK
namespace Go.Proofs.Ytnbknhgfjjgcjaa
open Go.RowKit Go.Maps Go.Shelf Go.Sort Go.Lib
theorem ltof (a b : Int × Int) : ltOf cmpP a b = ltP a b := cmp_lt a b
theorem swo : SWO (ltOf cmpP) where
  irrefl x := by rw [ltof]; exact lt_irrefl x
  trans x y z h1 h2 := by rw [ltof] at *; exact lt_trans h1 h2
  ntrans x y z h1 h2 := by rw [ltof] at *; unfold ltP at *; simp at *; omega
theorem cmp_lays (blk off size : Nat) (w : World) : CmpLays Try.prog 27 #[] ic 2 cmpP blk off size w := fun m os dk _ x y => by
  refine (cmp_any x.1 x.2 y.1 y.2 _).mono ?_
  rintro e w' ⟨rfl, rfl⟩
  refine ⟨rfl, 1, #[.cells #[.int .i64 x.1, .int .i64 x.2] 25, .cells #[.int .i64 y.1, .int .i64 y.2] 25, .cells #[.int .i64 (cmpI x.1 y.1), .int .i64 (cmpI x.2 y.2)] 3], ?_⟩
  generalize sortWorldK ic 2 w blk off m dk os = W
  rw [alloc_eq_grow, alloc_eq_grow, alloc_eq_grow, grow_grow, drew_grow, grow_grow]
  rfl
theorem cellsP_at : ∀ (l : List (Int × Int)) (t : Nat), t < l.length * 2 → (cellsP l)[t]? = some ((ic (l.toArray[t / 2]!))[t % 2]!)
  | [], t, h => by simp at h
  | x :: r, 0, _ => by simp [cellsP, ic]
  | x :: r, 1, _ => by simp [cellsP, ic]
  | x :: r, t + 2, h => by
    have hr : t < r.length * 2 := by simp at h; omega
    have := cellsP_at r t hr
    have e1 : (t + 2) / 2 = t / 2 + 1 := by omega
    have e2 : (t + 2) % 2 = t % 2 := by omega
    have e3 : cellsP (x :: r) = .int .i64 x.1 :: .int .i64 x.2 :: cellsP r := rfl
    rw [e1, e2, e3]
    have e4 : (x :: r).toArray[t / 2 + 1]! = r.toArray[t / 2]! := by
      have h2 : t / 2 < r.length := by omega
      rw [getElem!_pos _ _ (by simp; omega), getElem!_pos _ _ (by simpa using h2)]
      simp
    rw [e4]
    simpa using this
theorem flat_list (l : List (Int × Int)) : (flatK ic 2 l.toArray).toList = cellsP l := by
  have hl : (cellsP l).length = l.length * 2 := by
    induction l with
    | nil => rfl
    | cons x r ih => show (cellsP r).length + 1 + 1 = _; rw [ih]; simp; omega
  apply List.ext_getElem?
  intro t
  by_cases ht : t < l.length * 2
  · rw [cellsP_at l t ht, Array.getElem?_toList, Array.getElem?_eq_getElem (by simpa using ht)]
    have := get_flatK ic 2 l.toArray t (by simpa using ht)
    rw [getElem!_pos _ t (by simpa using ht)] at this
    rw [this]
  · rw [List.getElem?_eq_none (by simp; omega), List.getElem?_eq_none (by omega)]
theorem length_cellsP (l : List (Int × Int)) : (cellsP l).length = l.length * 2 := by
  rw [← flat_list]; simp
theorem holds_own {w : World} {g : Nat} {cur : Array Value} {e : TypeId} {ss : List (Int × Int)} (hb : w.heap[g]? = some (.cells cur e (0, 0))) (ht : cur.toList.take (ss.length * 2) = cellsP ss) : HoldsK ic 2 w g 0 ss.toArray := by
  intro j hj
  have hj' : j < ss.length * 2 := by simpa using hj
  refine ⟨?_, by simp [World.frozen?, hb]⟩
  have h1 : (cur.toList.take (ss.length * 2))[j]? = (cellsP ss)[j]? := by rw [ht]
  rw [List.getElem?_take_of_lt hj', ← flat_list, Array.getElem?_toList, Array.getElem?_toList, Array.getElem?_eq_getElem hj] at h1
  simp only [World.cell?, hb, Nat.zero_add]
  simp only [Option.isSome_none, Bool.false_eq_true, if_false]
  rw [h1, getElem!_pos _ j hj]; rfl
theorem grown_sorted {w : World} {g n : Nat} {os : Array Obj} (d : Array (Int × Int)) : w.grownBy (sortWorldK ic 2 w g 0 n d os) (some g) := by
  unfold sortWorldK putRowK
  refine ⟨rfl, rfl, rfl, by simp, fun k hk hne => ?_⟩
  rw [heap_grow_old _ _ (by simpa using hk)]
  have : g ≠ k := fun e => hne (by rw [e])
  simp [putRow, mapBlock, Sort.ahead, Array.getElem?_modify, this]
theorem own_sorted {w : World} {base g cap n : Nat} {e : TypeId} {os : Array Obj} {cur : Array Value} {ss : List (Int × Int)} {m : Nat} (hl : ss.length = m) (hbase : base ≤ g) (hb : w.heap[g]? = some (.cells cur e (0, 0)))
    (h1 : m ≤ cap) (h2 : cap ≤ maxLen) (h3 : cur.size = cap * 2) :
    (sortWorldK ic 2 w g 0 n ss.toArray os).ownsRow base e 2 (.slice (some ⟨g, 0, none⟩) m cap) m (cellsP ss) := by
  subst hl
  have hg : g < w.heap.size := (Array.getElem?_eq_some_iff.1 hb).1
  refine ⟨length_cellsP ss, .inr ⟨g, cap, putCells id 0 (flatK ic 2 ss.toArray) cur, rfl, hbase, ?_, h1, h2, by simp [putCells, h3], ?_⟩⟩
  · unfold sortWorldK putRowK
    rw [heap_grow_old _ _ (by simpa using hg)]
    simp [putRow, mapBlock, Sort.ahead, Array.getElem?_modify, hb, onCells]
  · rw [← flat_list]
    apply List.ext_getElem?
    intro j
    by_cases hj : j < ss.length * 2
    · rw [List.getElem?_take_of_lt hj, Array.getElem?_toList, Array.getElem?_toList]
      simp [putCells, hj, show j < cur.size by omega]
    · rw [List.getElem?_take_eq_none (by omega), List.getElem?_eq_none (by simp; omega)]
theorem sortfunc_any (g cap : Nat) (ss : List (Int × Int)) (w : World) (base : Nat) (hbase : base ≤ g) (cur : Array Value) (hb : w.heap[g]? = some (.cells cur 25 (0, 0))) (h1 : ss.length ≤ cap) (h2 : cap ≤ maxLen) (h3 : cur.size = cap * 2) (h4 : cur.toList.take (ss.length * 2) = cellsP ss) (hs : ss.length < 4611686018427387904) :
    Calls Try.prog 30 #[.slice (some ⟨g, 0, none⟩) ss.length cap, .func (.func 27) #[] #[]] w fun e w' => e = .returned (.tuple #[]) ∧
      ∃ ts : List (Int × Int), ts.Perm ss ∧ ts.Pairwise (fun a b => ltP b a = false) ∧ w'.ownsRow base 25 2 (.slice (some ⟨g, 0, none⟩) ss.length cap) ss.length (cellsP ts) ∧ w.grownBy w' (some g) := by
  have eg : ∀ args w, (callFunc 27 args).run Try.prog w = .ok (.enter 27 args) w := enters_of Try.func27 (by kernel_rfl) rfl
  have hcon := AnyQ.slices_SortFunc Try.sortInst 2 Try.isAgg25 Try.sizeOf25 ic (fun _ => rfl) (fun x v hv => by simp [ic] at hv; rcases hv with rfl | rfl <;> rfl) cmpP swo 27 #[] g 0 cap ss.toArray w eg (cmp_lays _ _ _ _) (holds_own hb h4) (Array.getElem?_eq_some_iff.1 hb).1 (by simpa using hs)
  change Calls Try.prog 30 _ _ _ at hcon
  have es : ss.toArray.size = ss.length := by simp
  rw [es] at hcon
  refine hcon.mono ?_
  rintro e w' ⟨rfl, d', n, os, hp, hsrt, rfl⟩
  have hsz : d'.toList.length = ss.length := by have := hp.1; simpa using this
  refine ⟨rfl, d'.toList, ?_, ?_, ?_, grown_sorted d'⟩
  · obtain ⟨p1, _, p3⟩ := hp
    have e1 : d'.extract 0 ss.length = d' := by rw [← es, ← p1]; simp
    rw [e1] at p3
    simpa using p3
  · rw [List.pairwise_iff_getElem]
    intro i j hi hj hij
    have := hsrt i j (Nat.zero_le _) hij (by omega)
    rw [ltof, getElem!_pos _ _ (by simpa using hj), getElem!_pos _ _ (by simpa using hi)] at this
    simpa using this
  · have := own_sorted (w := w) (base := base) (n := n) (os := os) (ss := d'.toList) hsz hbase hb h1 h2 h3
    simpa using this
theorem perm_sorted {ts l : List (Int × Int)} (hp : ts.Perm l) (hs : ts.Pairwise fun a b => ltP b a = false) (hr : Rise l) : ts = l := by
  have hn := hr.nodup
  have hn' : ts.Nodup := hp.symm.nodup hn
  have hr' : Rise ts := by
    refine (hs.and hn').imp ?_
    rintro a b ⟨h1, h2⟩
    cases hc : ltP a b
    · exact absurd (lt_total hc h1) h2
    · rfl
  exact rise_ext hr' hr fun x => hp.mem_iff
end Go.Proofs.Ytnbknhgfjjgcjaa
