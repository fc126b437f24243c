/- Slices of instances; a set made of one. Conditions: its length has room, its numbers are ints. -/
import Derived.Test.YtnbknhgfjjgcjaaSet
import Derived.Carry
namespace Go.Proofs.Ytnbknhgfjjgcjaa
open Go.RowKit Go.Maps
/-- From address A on there lie the instances l, below the heap's end. -/
def Ins (w : World) (A : Option Addr) (l : List (Int × Int)) : Prop :=
  0 < l.length → ∃ b off, A = some ⟨b, off, none⟩ ∧ b < w.heap.size ∧ ∀ k x, l[k]? = some x → w.cell? ⟨b, off + k * 2, none⟩ = some (.int .i64 x.1) ∧ w.cell? ⟨b, off + k * 2 + 1, none⟩ = some (.int .i64 x.2)
theorem Ins.below {w w' : World} {A : Option Addr} {l : List (Int × Int)} (h : Ins w A l) (hb : Below w.heap.size w w') : Ins w' A l := fun hn => by
  obtain ⟨b, off, e, hlt, hc⟩ := h hn
  exact ⟨b, off, e, Nat.lt_of_lt_of_le hlt hb.size, fun k x hk => ⟨(hb.cell (p := ⟨b, off + k * 2, none⟩) hlt).trans (hc k x hk).1, (hb.cell (p := ⟨b, off + k * 2 + 1, none⟩) hlt).trans (hc k x hk).2⟩⟩
theorem Ins.at_ {w : World} {A : Option Addr} {l : List (Int × Int)} (h : Ins w A l) {k : Nat} {x : Int × Int} (hk : l[k]? = some x) :
    ∃ b off, A = some ⟨b, off, none⟩ ∧ b < w.heap.size ∧ w.cell? ⟨b, off + k * 2, none⟩ = some (.int .i64 x.1) ∧ w.cell? ⟨b, off + k * 2 + 1, none⟩ = some (.int .i64 x.2) := by
  have hl : 0 < l.length := by
    rcases Nat.eq_zero_or_pos l.length with h0 | h0
    · rw [List.eq_nil_of_length_eq_zero h0] at hk; simp at hk
    · exact h0
  obtain ⟨b, off, e, hlt, hc⟩ := h hl
  exact ⟨b, off, e, hlt, hc k x hk⟩
theorem Ins.take {w : World} {A : Option Addr} {l : List (Int × Int)} (h : Ins w A l) (n : Nat) : Ins w A (l.take n) := fun hn => by
  have hl : (l.take n).length ≤ l.length := by rw [List.length_take]; omega
  obtain ⟨b, off, e, hlt, hc⟩ := h (by omega)
  refine ⟨b, off, e, hlt, fun k x hk => hc k x ?_⟩
  rw [List.getElem?_take] at hk
  split at hk
  · exact hk
  · cases hk
theorem Ins.nil_ {w : World} {A : Option Addr} : Ins w A [] := fun h => absurd h (by simp)
/-- The set of a list, its instances put in one behind the other. -/
def mk (l : List (Int × Int)) : List (Int × Int) := l.foldl (fun s i => ins i s) []
theorem mk_snoc (l : List (Int × Int)) (i : Int × Int) : mk (l ++ [i]) = ins i (mk l) := by unfold mk; rw [List.foldl_append]; rfl
theorem mk_take (l : List (Int × Int)) {k : Nat} {x : Int × Int} (h : l[k]? = some x) : mk (l.take (k + 1)) = ins x (mk (l.take k)) := by
  rw [List.take_add_one, h, ← mk_snoc]; rfl
theorem length_ins_le (i : Int × Int) (l : List (Int × Int)) (h : Rise l) : (ins i l).length ≤ l.length + 1 := by rw [length_ins h]; split <;> omega
theorem fold_mk (l : List (Int × Int)) : ∀ s, Rise s → Rise (l.foldl (fun s i => ins i s) s) ∧ (l.foldl (fun s i => ins i s) s).length ≤ s.length + l.length ∧ ∀ x, x ∈ l.foldl (fun s i => ins i s) s ↔ x ∈ s ∨ x ∈ l := by
  induction l with
  | nil => intro s hs; exact ⟨hs, Nat.le_refl _, fun x => by simp⟩
  | cons i r ih =>
    intro s hs
    obtain ⟨h1, h2, h3⟩ := ih (ins i s) (rise_ins hs)
    refine ⟨h1, ?_, fun x => ?_⟩
    · have := length_ins_le i s hs
      simp only [List.foldl_cons, List.length_cons]; omega
    · simp only [List.foldl_cons]
      rw [h3 x, mem_ins, List.mem_cons]
      constructor
      · rintro ((h | h) | h)
        · exact .inr (.inl h)
        · exact .inl h
        · exact .inr (.inr h)
      · rintro (h | h | h)
        · exact .inl (.inr h)
        · exact .inl (.inl h)
        · exact .inr h
theorem rise_mk (l : List (Int × Int)) : Rise (mk l) := (fold_mk l [] List.Pairwise.nil).1
theorem length_mk (l : List (Int × Int)) : (mk l).length ≤ l.length := Nat.le_trans (fold_mk l [] List.Pairwise.nil).2.1 (by simp)
theorem mem_mk (l : List (Int × Int)) (x : Int × Int) : x ∈ mk l ↔ x ∈ l := ((fold_mk l [] List.Pairwise.nil).2.2 x).trans (by simp)
/-- A set of nothing. -/
theorem set_new (w : World) : Set ((w.alloc (.map #[] 0)).alloc (.cells #[.map (some w.heap.size)] 50)) (w.heap.size + 1) w.heap.size [] := by
  refine ⟨?_, ⟨.map [], (World.ownsMap_made w _ _ _).alloc _, rfl, fun x _ => by simp [has]⟩, List.Pairwise.nil, fun x hx => by cases hx⟩
  have := Row.new (w.alloc (.map #[] 0)) 50 #[.map (some w.heap.size)]
  simpa using this
set_option maxHeartbeats 1000000 in
theorem new_any (A : Option Addr) (n c : Nat) (l : List (Int × Int)) (w : World) (hn : l.length = n) (hl : Ins w A l) (hok : ∀ x, x ∈ l → Ok x) (ln : n ≤ 4611686018427387904) :
    Calls Try.prog 8 #[.slice A n c] w fun e w' => ∃ g b, e = .returned (.pointer (some ⟨g, 0, none⟩)) ∧ Set w' g b (mk l) ∧ w.heap.size ≤ g ∧ w.heap.size ≤ b ∧ Below w.heap.size w w' := by
  subst hn
  have hmm := @run_makeMap Try.prog
  have S0 := hide (set_new w)
  have B0 := hide (below_two w (.map #[] 0) (.cells #[.map (some w.heap.size)] 50))
  have hok' := hide hok
  clear hok
  go_enter Try.func8, Try.ntmps8
  go_wp2
  go_loopw [11] (fun i wr => ∃ k : Nat, k ≤ l.length ∧ i = .int .i64 k ∧ Hid (Set wr (w.heap.size + 1) w.heap.size (mk (l.take k))) ∧ Hid (Below w.heap.size w wr)) (fun i _ => l.length - (intOf i).toNat)
  case atStart => exact ⟨0, by omega, rfl, S0, B0⟩
  case round =>
    obtain ⟨k, hk, rfl, hS, hB⟩ := hrel
    by_cases hlt : k < l.length
    · obtain ⟨⟨r, s⟩, hx⟩ : ∃ x, l[k]? = some x := ⟨_, List.getElem?_eq_getElem hlt⟩
      have ho := hok'.out _ (List.mem_of_getElem? hx)
      obtain ⟨b, off, rfl, _, c0, c1⟩ := (hl.below hB.out).at_ hx
      have hm := hide (mk_take l hx)
      have hlen := length_mk (l.take k)
      have hlen2 : (mk (l.take k)).length < maxLen := by rw [List.length_take] at hlen; unfold maxLen; omega
      have HL := hide hlen2
      clear hx hlen hlen2 hl
      have HS := hide (hS.out.alloc (.cells #[.int .i64 r, .int .i64 s] 25))
      have HB := hide (hB.out.alloc hB.out.size (.cells #[.int .i64 r, .int .i64 s] 25))
      go_wp2_with (go_at_call 13; refine (add_any _ _ _ r s _ HS.out ho HL.out).mono ?_; rintro e w1 ⟨rfl, hS1, hg1⟩; have hS2 := hide hS1; have hg2 := hide hg1; clear hS1 hg1)
      go_roundw
      case rel =>
        refine ⟨k + 1, by omega, by go_num, ?_, hide (HB.out.grown hg2.out HB.out.size fun j hj => by cases hj; exact Nat.le_refl _)⟩
        rw [hm.out]; exact hS2
      case measure => simp [intOf]; omega
    · go_wp2
      go_ret
      obtain rfl : k = l.length := by omega
      rw [List.take_length] at hS
      exact ⟨_, _, rfl, hS.out, by omega, Nat.le_refl _, hB.out⟩
end Go.Proofs.Ytnbknhgfjjgcjaa
