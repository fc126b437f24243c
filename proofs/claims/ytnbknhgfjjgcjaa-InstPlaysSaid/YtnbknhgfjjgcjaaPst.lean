/- What the law keeps through its calls: further steps. Conditions: none of its own. -/
import Derived.Test.YtnbknhgfjjgcjaaAddw
import Derived.Test.YtnbknhgfjjgcjaaAsks
namespace Go.Proofs.Ytnbknhgfjjgcjaa
open Go.RowKit Go.Maps
theorem St.first {W w : World} {g d : Nat} {L : List (Int × Int)} (h : Set w g d L) (hg : W.heap.size ≤ g) (hd : W.heap.size ≤ d) (hb : Below W.heap.size W w) : St W (w.alloc (.cells #[.slice none 0 0] 29)) g d w.heap.size L [] :=
  ⟨h.alloc _, ⟨⟨none, 0, Row.new w _ _, Ins.nil_, fun _ => rfl, Nat.le_refl _, fun a e => by cases e⟩, Nat.ne_of_gt h.lt.2⟩, hb.alloc hb.size _, hg, hd, hb.size, Nat.ne_of_gt h.lt.1⟩
theorem want_some (q d : Nat) (l : List (Int × Int)) (r s : Int) (w : World) (h : Wt w q d l) (hr : Rise l) (hn : l.length ≤ 1000) (hd : d < w.heap.size) :
    Calls Try.prog 23 #[.agg #[.int .i64 r, .int .i64 s], .pointer (some ⟨q, 0, none⟩)] w fun e w' => ∃ t, e = .returned (.bool t) ∧ Wt w' q d (ins (r, s) l) ∧ w.grownBy w' (some q) :=
  (want_any q d l r s w h hr hn hd).mono fun _ _ k => ⟨_, k.1, k.2⟩
theorem meas (k n : Nat) (h : k < n) (e : wrap64 ((k : Int) + 1) = (k : Int) + 1) : n - (intOf (.int .i64 (wrap64 ((k : Int) + 1)))).toNat < n - (intOf (.int .i64 (k : Int))).toNat := by
  rw [e]; simp [intOf]; omega
/-- A call in memory. -/
structure Ak (w : World) (b o : Nat) (kd r s : Int) : Prop where
  lt : b < w.heap.size
  c0 : w.cell? ⟨b, o, none⟩ = some (.int .i64 kd)
  c1 : w.cell? ⟨b, o + 1, none⟩ = some (.int .i64 r)
  c2 : w.cell? ⟨b, o + 2, none⟩ = some (.int .i64 s)
  ok : Ok (r, s)
theorem Ak.low {W w : World} {b o : Nat} {kd r s : Int} (h : Ak W b o kd r s) (hb : Below W.heap.size W w) : Ak w b o kd r s :=
  ⟨Nat.lt_of_lt_of_le h.lt hb.size, (hb.cell (p := ⟨b, o, none⟩) h.lt).trans h.c0, (hb.cell (p := ⟨b, o + 1, none⟩) h.lt).trans h.c1, (hb.cell (p := ⟨b, o + 2, none⟩) h.lt).trans h.c2, h.ok⟩
theorem AsksIn.get {w : World} {A : Option Addr} {n c : Nat} {l : List (Int × (Int × Int))} (h : AsksIn w A n c l) {k : Nat} (hk : k < n) : ∃ b off kd r s, A = some ⟨b, off, none⟩ ∧ Ak w b (off + k * 3) kd r s := by
  obtain ⟨x, hx⟩ : ∃ x, l[k]? = some x := ⟨_, List.getElem?_eq_getElem (by have := h.len; omega)⟩
  obtain ⟨b, off, e, hlt, h0, h1, h2, _, h4⟩ := h.at_ k x hx
  exact ⟨b, off, x.1, x.2.1, x.2.2, e, hlt, h0, h1, h2, h4⟩
theorem st_all {W w : World} {g d q n : Nat} {fs : List (Int × Int)} (h : St W w g d q (mk fs) (mk (fs.take n))) (hn : fs.length = n) (h30 : n ≤ 30) : ∃ L, St W w g d q L L ∧ L.length ≤ 30 + 0 := by
  refine ⟨mk fs, ?_, by have := length_mk fs; omega⟩
  rwa [List.take_of_length_le (by omega)] at h
theorem wrap_small (k : Nat) (h : k ≤ 1000000) : wrap64 ((k : Int) + 1) = (k : Int) + 1 := by unfold wrap64; omega
/-- j is the first place at which L holds x, or L's end. -/
structure Fd (L : List (Int × Int)) (x : Int × Int) (j : Nat) : Prop where
  le : j ≤ L.length
  no : ∀ i, i < j → L[i]? ≠ some x
  at_ : j < L.length → L[j]? = some x
theorem Fd.tell {L : List (Int × Int)} {x : Int × Int} {j : Nat} (h : Fd L x j) : decide ((j : Int) < (L.length : Int)) = decide (x ∈ L) := by
  rw [decide_eq_decide]
  constructor
  · intro hl
    exact List.mem_of_getElem? (h.at_ (by omega))
  · intro hm
    obtain ⟨i, hi⟩ := List.mem_iff_getElem?.1 hm
    rcases Nat.lt_or_ge j L.length with h1 | h1
    · omega
    · have h2 : i < L.length := by
        rcases Nat.lt_or_ge i L.length with h2 | h2
        · exact h2
        · rw [List.getElem?_eq_none h2] at hi; cases hi
      exact absurd hi (h.no i (by omega))
theorem fd_none {L : List (Int × Int)} {x : Int × Int} {j : Nat} (hj : j ≤ L.length) (hn : ¬ j < L.length) (h : ∀ i, i < j → L[i]? ≠ some x) : Fd L x j := ⟨hj, h, fun k => absurd k hn⟩
theorem fd_here {L : List (Int × Int)} {r s y1 y2 : Int} {j : Nat} (hj : j < L.length) (hy : L[j]? = some (y1, y2)) (e : sameB y1 y2 r s = true) (h : ∀ i, i < j → L[i]? ≠ some (r, s)) : Fd L (r, s) j := by
  rw [same_iff, decide_eq_true_iff] at e
  exact ⟨Nat.le_of_lt hj, h, fun _ => e ▸ hy⟩
theorem fd_next {L : List (Int × Int)} {r s y1 y2 : Int} {j : Nat} (hy : L[j]? = some (y1, y2)) (e : sameB y1 y2 r s = false) (h : ∀ i, i < j → L[i]? ≠ some (r, s)) : ∀ i, i < j + 1 → L[i]? ≠ some (r, s) := by
  rw [same_iff, decide_eq_false_iff_not] at e
  intro i hi hk
  rcases Nat.lt_or_ge i j with h1 | h1
  · exact h i h1 hk
  · obtain rfl : i = j := by omega
    rw [hy] at hk
    exact e (Option.some.inj hk)
theorem Wt.get {w : World} {q d : Nat} {L : List (Int × Int)} (h : Wt w q d L) : ∃ A c, w.cell? ⟨q, 0, none⟩ = some (.slice A L.length c) := by
  obtain ⟨A, c, hR, _⟩ := h.holds
  exact ⟨A, c, hR.cell 0⟩
theorem Wt.item {w : World} {q d : Nat} {L : List (Int × Int)} (h : Wt w q d L) {j : Nat} (hj : j < L.length) : ∃ b o c y1 y2, L[j]? = some (y1, y2) ∧ w.cell? ⟨q, 0, none⟩ = some (.slice (some ⟨b, o, none⟩) L.length c) ∧ w.cell? ⟨b, o + j * 2, none⟩ = some (.int .i64 y1) ∧ w.cell? ⟨b, o + j * 2 + 1, none⟩ = some (.int .i64 y2) := by
  obtain ⟨A, c, hR, hI, _⟩ := h.holds
  obtain ⟨⟨y1, y2⟩, hx⟩ : ∃ x, L[j]? = some x := ⟨_, List.getElem?_eq_getElem hj⟩
  obtain ⟨b, o, e, _, c0, c1⟩ := hI.at_ hx
  subst e
  exact ⟨b, o, c, y1, y2, hx, hR.cell 0, c0, c1⟩
theorem ints_of {k n : Nat} (h : k < n) : (0 : Int) ≤ (k : Int) ∧ (k : Int) < (n : Int) ∧ decide ((k : Int) < (n : Int)) = true := by simp; omega
theorem ints_not {k n : Nat} (h : ¬ k < n) : decide ((k : Int) < (n : Int)) = false := by simp; omega
theorem wrap_in {L : List (Int × Int)} {m j : Nat} (h : L.length ≤ 30 + m) (hm : m ≤ 60) (hj : j < L.length) : wrap64 ((j : Int) + 1) = (j : Int) + 1 := wrap_small j (by omega)
theorem bool_is (b : Bool) : ∃ t, b = t := ⟨b, rfl⟩
theorem Fd.tells {L : List (Int × Int)} {x : Int × Int} {j : Nat} (h : Fd L x j) : decide (j < L.length) = decide (x ∈ L) := by
  rw [← h.tell, decide_eq_decide]; omega
theorem Ak.two {w : World} {b o : Nat} {kd r s : Int} (h : Ak w b o kd r s) : w.cell? ⟨b, o + 1, none⟩ = some (.int .i64 r) ∧ w.cell? ⟨b, o + 2, none⟩ = some (.int .i64 s) := ⟨h.c1, h.c2⟩
theorem le_thousand {L : List (Int × Int)} {m : Nat} (h : L.length ≤ 30 + m) (hm : m ≤ 60) : L.length ≤ 1000 := by omega
section
variable {w : World} {g d q : Nat} {L : List (Int × Int)} {r s : Int} {t : Bool}
theorem add_t (ht : decide ((r, s) ∈ L) = t) (hn : L.length ≤ 1000) (hx : Ok (r, s)) (h : Set w g d L) :
    Calls Try.prog 13 #[.pointer (some ⟨g, 0, none⟩), .agg #[.int .i64 r, .int .i64 s]] w fun e w' => e = .returned (.bool (!t)) ∧ Set w' g d (ins (r, s) L) ∧ w.grownBy w' (some d) := by
  have := add_any g d L r s w h hx (by unfold maxLen; omega)
  rwa [ht] at this
theorem drop_t (ht : decide ((r, s) ∈ L) = t) (hx : Ok (r, s)) (h : Set w g d L) :
    Calls Try.prog 14 #[.pointer (some ⟨g, 0, none⟩), .agg #[.int .i64 r, .int .i64 s]] w fun e w' => e = .returned (.bool t) ∧ Set w' g d (del (r, s) L) ∧ w.grownBy w' (some d) := by
  have := drop_any g d L r s w h hx
  rwa [ht] at this
theorem has_t (ht : decide ((r, s) ∈ L) = t) (hx : Ok (r, s)) (h : Set w g d L) :
    Calls Try.prog 18 #[.pointer (some ⟨g, 0, none⟩), .agg #[.int .i64 r, .int .i64 s]] w fun e w' => e = .returned (.bool t) ∧ Below w.heap.size w w' := by
  have := has_any g d L r s w h hx
  rwa [ht] at this
theorem want_t (ht : decide ((r, s) ∈ L) = t) (hn : L.length ≤ 1000) (hr : Rise L) (hd : d < w.heap.size) (h : Wt w q d L) :
    Calls Try.prog 23 #[.agg #[.int .i64 r, .int .i64 s], .pointer (some ⟨q, 0, none⟩)] w fun e w' => e = .returned (.bool (!t)) ∧ Wt w' q d (ins (r, s) L) ∧ w.grownBy w' (some q) := by
  have := want_any q d L r s w h hr hn hd
  rwa [ht] at this
theorem len_b (h : Set w g d L) : Calls Try.prog 10 #[.pointer (some ⟨g, 0, none⟩)] w fun e w' => e = .returned (.int .i64 L.length) ∧ Below w.heap.size w w' :=
  (len_any g d L w h).mono fun e w' k => by
    obtain ⟨he, n, rfl⟩ := k
    exact ⟨he, rfl, rfl, rfl, Nat.le_refl _, fun _ _ => rfl⟩
theorem list_b (hn : L.length ≤ 1000) (h : Set w g d L) : Calls Try.prog 12 #[.pointer (some ⟨g, 0, none⟩)] w fun e w' => ∃ A c, e = .returned (.slice A L.length c) ∧ Ins w' A L ∧ Below w.heap.size w w' :=
  (list_any g d L w h (by omega)).mono fun e w' k => by
    obtain ⟨v, he, hm⟩ := k
    have hb := hm.2.2
    obtain ⟨A, c, rfl, hi⟩ := hm.slice
    exact ⟨A, c, he, hi, hb⟩
theorem same_b {A B : Option Addr} {c e : Nat} (hn : L.length ≤ 1000) (ha : Ins w A L) (hb : Ins w B L) : Calls Try.prog 11 #[.slice A L.length c, .slice B L.length e] w fun e w' => e = .returned (.bool true) ∧ Below w.heap.size w w' :=
  (same_inst A B L.length L.length c e L L w rfl rfl ha hb (by omega) (by omega)).mono fun e w' k => by
    obtain ⟨he, n, rfl⟩ := k
    exact ⟨by rw [he]; simp, rfl, rfl, rfl, Nat.le_refl _, fun _ _ => rfl⟩
end
theorem len_ins {L : List (Int × Int)} {m : Nat} (x : Int × Int) (hr : Rise L) (h : L.length ≤ 30 + m) : (ins x L).length ≤ 30 + (m + 1) := by have := length_ins_le x L hr; omega
theorem len_del {L : List (Int × Int)} {m : Nat} (x : Int × Int) (h : L.length ≤ 30 + m) : (del x L).length ≤ 30 + (m + 1) := by
  have : (del x L).length ≤ L.length := List.length_filter_le _ _
  omega
theorem len_same {L : List (Int × Int)} {m : Nat} (h : L.length ≤ 30 + m) : L.length ≤ 30 + (m + 1) := by omega
theorem del_none {L : List (Int × Int)} {x : Int × Int} (h : decide (x ∈ L) = false) : del x L = L := by
  rw [decide_eq_false_iff_not] at h
  unfold del
  rw [List.filter_eq_self]
  intro a ha
  simp only [decide_eq_true_eq]
  exact fun e => h (e ▸ ha)
/-- What is left behind one that is cut out at its place. -/
theorem del_cut {L : List (Int × Int)} {x : Int × Int} {j : Nat} (hr : Rise L) (hf : Fd L x j) (h : decide (x ∈ L) = true) : L.take j ++ L.drop (j + 1) = del x L := by
  have hj : j < L.length := by
    have := hf.tells
    rw [h] at this
    simpa using this
  have hx : L[j] = x := by
    have := hf.at_ hj
    rw [List.getElem?_eq_getElem hj] at this
    exact Option.some.inj this
  have he : L = L.take j ++ x :: L.drop (j + 1) := by
    rw [← hx, ← List.drop_eq_getElem_cons hj, List.take_append_drop]
  have hn := hr.nodup
  rw [he] at hn
  have h1 := List.nodup_append.1 hn
  have h2 := List.nodup_cons.1 h1.2.1
  unfold del
  conv => rhs; rw [he]
  rw [List.filter_append, List.filter_cons]
  simp only [ne_eq, not_true_eq_false, decide_false, Bool.false_eq_true, if_false]
  congr 1
  · symm; rw [List.filter_eq_self]
    intro a ha
    simp only [decide_eq_true_eq]
    exact fun e => h1.2.2 a ha x (List.mem_cons_self) e
  · symm; rw [List.filter_eq_self]
    intro a ha
    simp only [decide_eq_true_eq]
    exact fun e => h2.1 (e ▸ ha)
theorem St.box {W w : World} {g d q : Nat} {X L : List (Int × Int)} (h : St W w g d q X L) : ∃ A c, Row w q 29 #[.slice A L.length c] ∧ Ins w A L ∧ (A = none → c = 0) ∧ L.length ≤ c := by
  obtain ⟨A, c, h1, h2, h3, h4, _⟩ := h.wt.holds
  exact ⟨A, c, h1, h2, h3, h4⟩
theorem st_del {W w : World} {g d q : Nat} {L : List (Int × Int)} {x : Int × Int} (h : decide (x ∈ L) = false) (k : St W w g d q (del x L) L) : St W w g d q L L := by rwa [del_none h] at k
theorem bounds_of {j n c : Nat} (h : j < n) (k : n ≤ c) : (0 : Int) ≤ (j : Int) ∧ (j : Int) ≤ (c : Int) ∧ (0 : Int) ≤ (j : Int) + 1 ∧ (j : Int) + 1 ≤ (n : Int) := by omega
theorem len_take {L : List (Int × Int)} {j : Nat} (h : j < L.length) : (L.take j).length = j := by rw [List.length_take]; omega
theorem small_one {j n : Nat} (h : j < n) (k : n ≤ 1000) : j ≤ 1000000000 := by omega
theorem small_two {j n : Nat} (h : j < n) (k : n ≤ 1000) : j + (n - (j + 1)) ≤ 1000000000 := by omega
theorem row_one {w : World} {q : Nat} {t : TypeId} {v : Value} (h : Row w q t #[v]) : w.cell? ⟨q, 0, none⟩ = some v := h.cell 0
theorem wrap_k {L : List (Int × Int)} {m j : Nat} (h : L.length ≤ 30 + m) (hm : m ≤ 60) (hj : j < L.length) : IntKind.i64.wrap ((j : Int) + 1) = (j : Int) + 1 := IntWalk.i64_in _ (by omega)
/-- The slice behind q, written out. -/
structure Bo (w : World) (q : Nat) (A : Option Addr) (c : Nat) (L : List (Int × Int)) : Prop where
  row : Row w q 29 #[.slice A L.length c]
  ins : Ins w A L
theorem Bo.step {w w' : World} {q c : Nat} {A : Option Addr} {L : List (Int × Int)} (h : Bo w q A c L) (hb : Below w.heap.size w w') : Bo w' q A c L := ⟨h.row.below hb h.row.lt, h.ins.below hb⟩
theorem Bo.cell {w : World} {q c : Nat} {A : Option Addr} {L : List (Int × Int)} (h : Bo w q A c L) : w.cell? ⟨q, 0, none⟩ = some (.slice A L.length c) := h.row.cell 0
theorem St.bo {W w : World} {g d q : Nat} {X L : List (Int × Int)} (h : St W w g d q X L) : ∃ A c, Bo w q A c L := by
  obtain ⟨A, c, h1, h2, _⟩ := h.wt.holds
  exact ⟨A, c, h1, h2⟩
theorem ints_sixty {m : Nat} (h : ¬ m < 60) : decide ((m : Int) < 60) = false := by simp; omega
theorem le_thousand' {L : List (Int × Int)} {m : Nat} (h : L.length ≤ 30 + (m + 1)) (hm : m < 60) : L.length ≤ 1000 := by omega
theorem meas_plain (k n : Nat) (h : k < n) : n - (intOf (.int .i64 ((k : Int) + 1))).toNat < n - (intOf (.int .i64 (k : Int))).toNat := by
  simp [intOf]; omega
end Go.Proofs.Ytnbknhgfjjgcjaa
