/- The iterator over a map keyed by instances. Conditions: what a loop over an iterator promises. -/
import Derived.Test.YtnbknhgfjjgcjaaNew
import Derived.RangeFuncNested
import Derived.RangeFuncCalls
import Derived.RangeFuncLeaves
import Derived.Sort.MapsRangeIn
import Derived.OwnWalkIn
import Derived.TacticsInMore
import Derived.RegionIn
import Derived.LoopNIn
import Derived.LoopIn
namespace Go.Proofs.Ytnbknhgfjjgcjaa
open Go.RowKit Go.Maps
/-- What has come so far: no instance twice, those of the map that are no longer to come. -/
def Coll (D : DataW Unit) (left : Lit → Bool) (ss : List (Int × Int)) : Prop := ss.Nodup ∧ (∀ x, x ∈ ss → Ok x) ∧ ∀ x, Ok x → (x ∈ ss ↔ (has D (kl x) = true ∧ left (kl x) = false))
theorem coll_start (D : DataW Unit) : Coll D (has D) [] := ⟨List.nodup_nil, fun x hx => (by cases hx), fun x _ => (by cases has D (kl x) <;> simp)⟩
theorem coll_step {D : DataW Unit} {left : Lit → Bool} {ss : List (Int × Int)} (h : Coll D left ss) {x : Int × Int} (hx : Ok x) (hl : left (kl x) = true) (hh : has D (kl x) = true) : Coll D (fun z => left z && !z.sameKey (kl x)) (ss ++ [x]) := by
  have hnew : x ∉ ss := fun k => by have := ((h.2.2 x hx).1 k).2; rw [hl] at this; cases this
  refine ⟨List.nodup_append.2 ⟨h.1, by simp, fun a ha b hb => by simp at hb; subst hb; exact fun e => hnew (e ▸ ha)⟩, fun y hy => ?_, fun y hy => ?_⟩
  · rcases List.mem_append.1 hy with h1 | h1
    · exact h.2.1 y h1
    · simp at h1; subst h1; exact hx
  · by_cases e : y = x
    · subst e; simp [hh, WideAt.sameKey_self (kl_key y)]
    · have hs : (kl y).sameKey (kl x) = false := sameKey_ne fun k => e (kl_inj hy hx k)
      simp [h.2.2 y hy, e, hs]
/-- All has come. -/
theorem coll_end {D : DataW Unit} {left : Lit → Bool} {ss l : List (Int × Int)} (h : Coll D left ss) (hl : ∀ k, left k = false) (hr : Rise l) (hok : ∀ x, x ∈ l → Ok x) (hm : ∀ x, Ok x → (has D (kl x) = true ↔ x ∈ l)) : ss.Perm l := by
  refine (List.perm_ext_iff_of_nodup h.1 hr.nodup).2 fun x => ?_
  constructor
  · intro hx
    have ho := h.2.1 x hx
    exact (hm x ho).1 ((h.2.2 x ho).1 hx).1
  · intro hx
    have ho := hok x hx
    exact (h.2.2 x ho).2 ⟨(hm x ho).2 hx, hl _⟩
set_option maxRecDepth 100000 in
set_option maxHeartbeats 1000000 in
theorem iter_in (F : Fence) (n : Nat) (h10 : F.fn 31) (hro : F.round = none) (hn : 1 ≤ n) (l Bm b : Nat) (xs : List (Int × Int)) (D0 : DataW Unit) (J Jx : List (Int × Int) → World → Prop)
    (hY : ∀ pre x W, J pre W → pre.length < xs.length → YieldAt F (n - 1) Try.prog l #[iv x] W fun e W' =>
      (e = .returned (.bool true) ∧ J (pre ++ [x]) W' ∧ KeepsWalks W W') ∨ (e = .returned (.bool false) ∧ Jx (pre ++ [x]) W'))
    (W : World) (hJ : AbidesFrom W.heap.size J) (hm : W.cell? ⟨Bm, 0, none⟩ = some (.map (some b))) (hown : W.ownsMap Try.prog 25 unitElem b xs.length D0) (hz : size D0 = xs.length) (hr : Rise xs) (hok : ∀ x, x ∈ xs → Ok x) (hh : ∀ x, Ok x → (has D0 (kl x) = true ↔ x ∈ xs)) (h0 : J [] W) :
    CallsIn F n Try.prog 31 #[.func (.yield l) #[] #[], .pointer (some ⟨Bm, 0, none⟩)] W fun e W' => (∃ v, e = .returned v) ∧
      ((∃ ss : List (Int × Int), ss.Perm xs ∧ J ss W') ∨ (∃ pre : List (Int × Int), True ∧ Jx pre W')) := by
  have HH := hide (And.intro hr (And.intro hok hh))
  have HZ := hide hz
  have HO := hide hown
  clear hr hok hh hz hown
  refine callsIn_of_wp Try.func31 rfl h10 ?_ hro
  simp only [Try.ntmps31, List.size_toArray, List.length_cons, List.length_nil, Nat.reduceAdd, Nat.reduceSub, Array.replicate_succ, Array.replicate_zero, List.push_toArray, List.append_toArray, List.nil_append, List.cons_append]
  gi_wp2_with (first
    | (gi_at_range; refine wpListIn_range_own _ rfl _ 48 rfl 25 55 law Try.underlying48 _ b xs.length _ rfl HO.out ?_; intro w0 hrg0 hg0 hs0)
    | gi_in)
  go_frame
  gi_loopw [3] (fun _ wr => ∃ (left : Lit → Bool) (cnt : Nat) (ss : List (Int × Int)), wr.ranges Try.prog 25 unitElem b W.heap.size xs.length D0 left cnt ∧ ss.length + cnt ≤ xs.length ∧ Hid (Coll D0 left ss) ∧ J ss wr)
    (fun _ wr => wr.rangeLeft b W.heap.size)
  case atStart =>
    exact ⟨_, _, [], hrg0, by simp [HZ.out], hide (coll_start D0), hJ [] W w0 none h0 hg0 (fun r e => by cases e)⟩
  case round =>
    obtain ⟨left, cnt, ss, hrg, hcs, hC, hJs⟩ := hrel
    gi_wp2_with (first
      | (gi_at_next; refine wpListIn_next_ranges _ rfl _ rfl 25 law unitElem iv (fun _ : Unit => .agg #[]) (fun key k hk => by obtain ⟨x, _, hx, _⟩ := key_inv hk; exact ⟨x, hx⟩) (fun v y hv => ⟨(), (unitElem_inv hv).1⟩) b W.heap.size xs.length _ _ _ rfl hrg ?_ ?_)
      | gi_in)
    · intro hc0 hl0
      gi_wp2
      go_end0
      exact ⟨⟨_, rfl⟩, .inl ⟨ss, coll_end hC.out hl0 HH.out.1 HH.out.2.1 HH.out.2.2, hJs⟩⟩
    · intro x s k yd yp w2 cnt2 hkey hlk hv hat hrg2 hlt hg2 hs2 hen
      obtain ⟨x', ho, ex, rfl⟩ := key_inv hkey
      obtain rfl : (x, s) = x' := by
        unfold iv at ex
        obtain ⟨p, q⟩ := x'
        simp at ex
        simp [ex]
      have hC2 := hide (coll_step hC.out ho hlk (has_true_of_atKey hat))
      have hJ2 : J ss w2 := hJ ss wr w2 (some W.heap.size) hJs hg2 (fun r e => by cases e; exact ⟨Nat.le_refl _, hrg.iter_walk⟩)
      have hJ3 : J ss (w2.alloc (.cells #[.int .i64 x, .int .i64 s] 25)) := hJ ss w2 _ none hJ2 (World.grownBy_alloc _ _ _) (fun r e => by cases e)
      obtain ⟨fn, tmps, assign, body, hy, hR⟩ := hY ss (x, s) _ hJ3 (by omega)
      have hrg3 := hrg2.alloc (.cells #[.int .i64 x, .int .i64 s] 25)
      have HL := hide hlt
      have hlc : ss.length + 1 + cnt2 ≤ xs.length := by omega
      clear hs2 hkey hlk hv hat hg2 hJ2 hlt hJ3 ex
      unfold iv at hen hy
      gi_wp2
      refine hR.mono ?_
      rintro e W3 (⟨rfl, hJ4, hk3⟩ | ⟨rfl, hJx3⟩)
      · gi_wp2
        have hrg4 := hrg3.of_walks hk3
        go_roundw
        case rel => exact ⟨_, cnt2, ss ++ [(x, s)], hrg4, by simp; omega, hC2, hJ4⟩
        case measure => rw [hrg4.left_eq, hrg.left_eq]; exact HL.out
      · gi_wp2
        refine bodyPost_ret (results_none rfl _ _ _) rfl ?_
        exact ⟨⟨_, rfl⟩, .inr ⟨ss ++ [(x, s)], trivial, hJx3⟩⟩
end Go.Proofs.Ytnbknhgfjjgcjaa
