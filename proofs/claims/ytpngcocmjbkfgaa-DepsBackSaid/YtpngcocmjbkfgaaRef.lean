/- What Read and the methods of the document's own reader come to. Conditions: the reader lies in memory as it must. -/
import Derived.Test.YtpngcocmjbkfgaaText
namespace Go.Proofs.Ytpngcocmjbkfgaa
open Go.RowKit
/-- A new reader of these bytes. -/
def NewP (w : World) (zs : List Int) (e : Ending) (w' : World) : Prop :=
  ∃ g, e = .returned (.pointer (some ⟨g, 0, none⟩)) ∧ w.heap.size ≤ g ∧ Rdr 67 w' g g zs 0 0 ∧ Below w.heap.size w w'
set_option maxHeartbeats 1000000 in
theorem pread_any (A : Option Addr) (n c : Nat) (zs : List Int) (w : World) (hn : zs.length = n) (hz : Lies w A zs) (ho : Octets zs) (hc : A = none → c = 0) (ln : n ≤ 140737488355328) :
    Calls Try.prog 27 #[.slice A n c] w (NewP w zs) := by
  have hcl := hide (clone_any A n c zs w hn hz hc ln)
  clear hc hz
  go_enter Try.func27, Try.ntmps27
  go_wp2_with (go_at_call 36; (with_reducible refine hcl.out.mono ?_); rintro x w1 ⟨A', c', rfl, hc1, hl1, hb1⟩; have hl1' := hide hl1; have hb1' := hide hb1; clear hl1 hb1)
  go_ret
  refine ⟨w1.heap.size, rfl, hb1'.out.size, ⟨⟨A', n, c', Row.new _ _ _, hn, hc1, by omega, ?_⟩, ho, by omega, Nat.le_refl _, by omega⟩, kept_alloc hb1'.out _⟩
  exact (hl1'.out.deep).keep fun k hk => Below.heap_alloc _ _ _ hk
section
variable {w : World} {B g i : Nat} {zs : List Int} {e : Int}
theorem Rdr.place_to {t : TypeId} (h : Rdr t w B g zs i e) (z : Int) (j : Nat) (hz : z = j) (hj : j ≤ zs.length) : Rdr t (w.setCell ⟨g, 1, none⟩ (.int .i64 z)) B g zs j e := by
  subst hz; exact h.place hj
theorem rtests {k : Nat} {p : Int} (hk : k ≤ 9) (h : ¬ ((0 < k ∧ p = 0) ∨ (k = 9 ∧ 1 < p))) :
    (((k : Int) == 9) = false ∧ decide (0 < k) = false ∧ decide (0 < (k : Int)) = false) ∨ (((k : Int) == 9) = false ∧ decide (0 < k) = true ∧ decide (0 < (k : Int)) = true ∧ (p == 0) = false) ∨
    (((k : Int) == 9) = true ∧ decide (1 < p) = false ∧ decide (0 < k) = true ∧ decide (0 < (k : Int)) = true ∧ (p == 0) = false) := by
  rcases tests hk h with ⟨a, b, c⟩ | ⟨a, b, c, d⟩ | ⟨a, b, c, d, f⟩
  · exact .inl ⟨c, a, b⟩
  · exact .inr (.inl ⟨d, a, b, c⟩)
  · exact .inr (.inr ⟨d, f, a, b, c⟩)
theorem rtests_bad {k : Nat} {p : Int} (h : (0 < k ∧ p = 0) ∨ (k = 9 ∧ 1 < p)) :
    (((k : Int) == 9) = true ∧ decide (1 < p) = true) ∨ (((k : Int) == 9) = false ∧ decide (0 < k) = true ∧ decide (0 < (k : Int)) = true ∧ (p == 0) = true) ∨
    (((k : Int) == 9) = true ∧ decide (1 < p) = false ∧ decide (0 < k) = true ∧ decide (0 < (k : Int)) = true ∧ (p == 0) = true) := by
  by_cases h9 : k = 9
  · have a : ((k : Int) == 9) = true := by subst h9; decide
    by_cases hp : 1 < p
    · exact .inl ⟨a, decide_eq_true hp⟩
    · have h0 : 0 < k ∧ p = 0 := by omega
      exact .inr (.inr ⟨a, decide_eq_false hp, decide_eq_true h0.1, decide_eq_true (by omega), by rw [h0.2]; rfl⟩)
  · have h0 : 0 < k ∧ p = 0 := by omega
    exact .inr (.inl ⟨by rw [beq_eq_false_iff_ne]; omega, decide_eq_true h0.1, decide_eq_true (by omega), by rw [h0.2]; rfl⟩)
theorem and8_int {p : Int} {q : Nat} (h0 : 0 ≤ p) (h1 : p ≤ 255) (hq : (p % 128).toNat = q) : bits .and .u8 p 127 = (q : Int) := by
  obtain ⟨P, rfl⟩ := Int.eq_ofNat_of_zero_le h0
  rw [← hq]
  refine (and8_127 P (by omega)).trans ?_
  omega
end
end Go.Proofs.Ytpngcocmjbkfgaa
