/- What DedupOnce holds along its loop. No condition. -/
import Derived.Test.YtjadbppcjndmlaaTu
import Derived.Test.YtjadbppcjndmlaaSa
namespace Go.Proofs.Ytjadbppcjndmlaa
open Go.ChangeShapes Go.WideShapes Go.ChangeAt Go.RowKit Go.Joins
/-- A slice of ints that came in. -/
structure EintsIn (w : World) (A : Option Addr) (n c : Nat) (l : List Int) : Prop where
  len : l.length = n
  le : n ≤ c
  room : c ≤ 9223372036854775807
  lies : Els 1 w A (l.map fun y => [Value.int .i64 y])
theorem int_cells {H : Type} {enc : TypeId × Value → H} {W : World} {fuel : Nat} {cs : List Value} {x : DataW H × List MemPlace}
    (ht : DataW.trod enc Try.prog W 0 (fun _ => true) true fuel 3 cs = some x) : ∃ y : Int, cs = [Value.int .i64 y] ∧ True := by
  obtain ⟨k, e2, _, _⟩ := DataW.trod_int Try.underlying3 ht
  exact ⟨k, e2, trivial⟩
theorem Try.bytes3 : Try.prog.bytesOf 3 = 8 := by kernel_rfl
theorem eints_in {H : Type} {enc : TypeId × Value → H} {W : World} {A : Option Addr} {n c : Nat} {d : DataW H} {p : List MemPlace} {ts : List TypeId} {ds : List (DataW H)} {j : Nat}
    (h : DataW.Trod enc Try.prog W 0 (fun _ => true) true 41 (.slice A n c) d p) (hsz : (DataW.weightsEach Try.prog ts ds).all (· ≤ reachBytes) = true) (ht : ts[j]? = some 41) (hd : ds[j]? = some d) : ∃ l, EintsIn W A n c l := by
  obtain ⟨fuel, hf⟩ := h
  obtain ⟨l, h1, h2, h3, _, _, _, h7⟩ := els_in (fun y => [Value.int .i64 y]) (fun _ => True) Try.underlying41 Try.cells3 (by omega) Try.bytes3 (fun ht _ => int_cells ht) hf (fun n hn => by
    have := List.all_eq_true.1 hsz _ (DataW.weights_mem_each ht hd n hn)
    simpa using this)
  exact ⟨l, h1, h2, by unfold maxLen at h3; omega, h7⟩
theorem EintsIn.at_ {w : World} {A : Option Addr} {n c : Nat} {l : List Int} (h : EintsIn w A n c l) {j : Nat} (hj : j < n) : ∃ y b off, A = some ⟨b, off, none⟩ ∧ b < w.heap.size ∧ w.cell? ⟨b, off + j, none⟩ = some (.int .i64 y) := by
  obtain ⟨y, hy⟩ : ∃ y, l[j]? = some y := ⟨_, List.getElem?_eq_getElem (by rw [h.len]; exact hj)⟩
  obtain ⟨b, off, e, hb, hc⟩ := Els.at_ h.lies (k := j) (x := [Value.int .i64 y]) (by rw [List.getElem?_map, hy]; rfl)
  have := hc 0 (by omega)
  rw [Nat.mul_one, Nat.add_zero] at this
  exact ⟨y, b, off, e, hb, this⟩
theorem quiet_l {P : Program} {F : FuncId} {args : Array Value} {v : Value} {W : World} {n : Nat} (h : Calls P F args (W.drewN n) fun e w' => e = .returned v ∧ W.drewN n = w') : Calls P F args (W.drewN n) fun e w' => e = .returned v ∧ ∃ n, w' = W.drewN n :=
  h.mono fun _ _ ⟨he, e⟩ => ⟨he, n, e.symm⟩
theorem eql_inst (a b c d : Int) (w : World) : (binOp .eql 46 (.agg #[.int .i64 a, .int .i64 b]) (.agg #[.int .i64 c, .int .i64 d])).run Try.prog w = .ok (.bool (a == c && b == d)) w := by
  have u3 := Try.underlying3
  have a3 := Try.isAgg3
  have z3 := Try.sizeOf3
  have hS : Try.prog.underlying 46 = some (.struct (Try.prog.fieldsOf 46)) := by kernel_rfl
  have hp : Try.prog.stoodInHeld 46 = false := by kernel_rfl
  rw [run_eql_struct, show (10000 : Nat) = 9999 + 1 from rfl, run_equalIn_agg w 9999 46 _ _ hS hp]
  simp only [Program.fieldsOf, Try.underlying46]
  go_simp
  cases h1 : (a == c) <;> simp_all
  cases h2 : (b == d) <;> simp_all
theorem row_off {base sz : Nat} {e t : TypeId} {w : World} {v : Value} {n g : Nat} {xs : List Value} {cs : Array Value} (h : w.ownsRow base e sz v n xs) (hr : Row w g t cs) (hne : t ≠ e) : some g ≠ v.ownBlock := by
  intro hg
  rcases h.2 with ⟨rfl, _⟩ | ⟨a, cap, cur, rfl, _, hh, _⟩
  · simp [Value.ownBlock] at hg
  · simp [Value.ownBlock] at hg
    subst hg
    unfold Row at hr
    rw [hh] at hr
    injection hr with hr
    injection hr with _ h2 _
    exact hne h2.symm
/-- The reply to a number. -/
def repO (n : Int) : Re := ⟨0, false, nilT, n, []⟩
/-- What holds of the owners and of the numbers noted. -/
structure Onc (l : List Ow) (D : List (Int × Int)) : Prop where
  len : l.length = 8
  own : ∀ (k : Nat) (o : Ow), l[k]? = some o → 0 ≤ o.s ∧ o.s ≤ 9 ∧ (o.s = 0 → o.r = zeroR) ∧ (1 ≤ o.s → o.r = repO (100 * ((k : Int) + 1) + o.s))
  done : ∀ p, p ∈ D → ∃ (k : Nat) (o : Ow), p.1 = (k : Int) + 1 ∧ l[k]? = some o ∧ p.2 ≤ o.s
theorem Onc.start : Onc (ows zeroL) [] := ⟨rfl, fun k o h => by
  have e : o = zeroO := by
    have h2 : ows zeroL = [zeroO, zeroO, zeroO, zeroO, zeroO, zeroO, zeroO, zeroO] := rfl
    have hm := List.mem_of_getElem? h
    rw [h2] at hm
    simpa using hm
  subst e
  exact ⟨Int.le_refl _, by show (0 : Int) ≤ 9; omega, fun _ => rfl, fun h => absurd h (by show ¬ (1 : Int) ≤ 0; omega)⟩, fun p hp => by cases hp⟩
theorem Onc.fresh {l : List Ow} {D : List (Int × Int)} (h : Onc l D) {k : Nat} {o : Ow} {s : Int} (ho : l[k]? = some o) (hs : o.s < s) : ∀ p, p ∈ D → (p.1 == (k : Int) + 1 && p.2 == s) = false := fun p hp => by
  obtain ⟨k', o', e1, e2, e3⟩ := h.done p hp
  rw [← Bool.not_eq_true, Bool.and_eq_true, beq_iff_eq, beq_iff_eq]
  rintro ⟨q1, q2⟩
  have hk : k' = k := by omega
  subst hk
  rw [ho] at e2
  cases e2
  omega
theorem Onc.next {l : List Ow} {D : List (Int × Int)} (h : Onc l D) {k : Nat} {o : Ow} {s : Int} (ho : l[k]? = some o) (hs : o.s < s) (h9 : s ≤ 9) : Onc (l.set k ⟨s, repO (100 * ((k : Int) + 1) + s)⟩) (D ++ [((k : Int) + 1, s)]) := by
  have h0 := (h.own k o ho).1
  have hk : k < l.length := by
    rcases Nat.lt_or_ge k l.length with h1 | h1
    · exact h1
    · rw [List.getElem?_eq_none h1] at ho; cases ho
  refine ⟨by rw [List.length_set]; exact h.len, fun j y hy => ?_, fun p hp => ?_⟩
  · by_cases hj : k = j
    · subst hj
      rw [List.getElem?_set_self hk] at hy
      cases hy
      exact ⟨by show (0 : Int) ≤ s; omega, h9, fun e => absurd e (by show ¬ s = 0; omega), fun _ => rfl⟩
    · rw [List.getElem?_set_ne hj] at hy
      exact h.own j y hy
  · rcases List.mem_append.1 hp with hp | hp
    · obtain ⟨k', o', e1, e2, e3⟩ := h.done p hp
      by_cases hj : k = k'
      · subst hj
        rw [ho] at e2
        cases e2
        exact ⟨k, _, e1, List.getElem?_set_self hk, by show p.2 ≤ s; omega⟩
      · exact ⟨k', o', e1, by rw [List.getElem?_set_ne hj]; exact e2, e3⟩
    · obtain rfl := List.mem_singleton.1 hp
      exact ⟨k, _, rfl, List.getElem?_set_self hk, Int.le_refl _⟩
theorem Onc.empty {l : List Ow} {D : List (Int × Int)} (h : Onc l D) {o : Ow} (ho : o ∈ l) : o.r.l = [] := by
  obtain ⟨k, hk⟩ := List.getElem?_of_mem ho
  obtain ⟨h0, _, h2, h3⟩ := h.own k o hk
  by_cases e : o.s = 0
  · rw [h2 e]; rfl
  · rw [h3 (by omega)]; rfl
theorem ok_repO {n : Int} (h : 0 ≤ n) : okR (repO n) = true := by
  unfold okR repO
  dsimp only
  have hn : rightB [] = true := right_true ⟨Nat.zero_le _, fun j hj => absurd hj (by simp)⟩
  rw [hn, decide_eq_true h]
  have : nilT.size = 0 := rfl
  rw [this]; rfl
theorem Onc.right {L : List Co} {D : List (Int × Int)} (h : Onc (ows L) D) : rightO L = true := by
  unfold rightO
  rw [List.all_eq_true]
  intro x hx
  have hm : x.o ∈ ows L := List.mem_map.2 ⟨x, hx, rfl⟩
  obtain ⟨k, hk⟩ := List.getElem?_of_mem hm
  obtain ⟨h0, h9, h2, h3⟩ := h.own k x.o hk
  unfold mayO
  by_cases e : x.o.s = 0
  · rw [if_pos e, h2 e]
    unfold nullR zeroR
    dsimp only
    have : nilB nilT = true := by unfold nilB; rw [nil_list]; rfl
    rw [this]; rfl
  · rw [if_neg e, decide_eq_true (show 1 ≤ x.o.s by omega), decide_eq_true (show x.o.s ≤ 1099511627776 by omega), h3 (by omega), ok_repO (by omega)]; rfl
end Go.Proofs.Ytjadbppcjndmlaa
