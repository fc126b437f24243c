/- What FrameTells calls, said for it. No condition. -/
import Derived.Test.YtdmfblobmahfbaaRfr
import Derived.Test.YtdmfblobmahfbaaLis
import Derived.Test.YtdmfblobmahfbaaRnd
import Derived.Test.YtdmfblobmahfbaaRoom
import Derived.Test.YtdmfblobmahfbaaRuns
namespace Go.Proofs.Ytdmfblobmahfbaa
open Go.RowKit
/-- Both slices with their marked room behind. -/
structure St (W w : World) (FA MA : Option Addr) (zs ps : List Int) : Prop where
  old : Below W.heap.size W w
  fl : Lies w FA (zs ++ pad 80 5)
  ml : Lies w MA (ps ++ pad 80 6)
  fn : FA ≠ none
  mn : MA ≠ none
section
variable {W w w' : World} {FA MA A B : Option Addr} {zs ps : List Int} {n c m d : Nat}
theorem St.below (h : St W w FA MA zs ps) (hb : Below w.heap.size w w') : St W w' FA MA zs ps := ⟨kept_trans h.old hb, h.fl.below hb, h.ml.below hb, h.fn, h.mn⟩
theorem front {A : Option Addr} {zs ys : List Int} (h : Lies w A (zs ++ ys)) : Lies w A zs := by
  have := h.take zs.length
  rwa [List.take_left] at this
theorem roomy_use (z : Int) (hn : zs.length = n) (hz : Lies w A zs) (ln : n ≤ 140737488351232) :
    Calls Try.prog 10 #[.slice A n c, .int .u8 z] w fun e w' => ∃ A', e = .returned (.slice A' (n + 80) (n + 80)) ∧ A' ≠ none ∧ Lies w' A' (zs ++ pad 80 z) ∧ Below w.heap.size w w' :=
  (roomy_any A n c zs z w hn hz (by omega)).mono fun _ _ ⟨he, ho, hb⟩ => ⟨_, he, (by intro h; cases h), Lies.of_own ho, hb⟩
/-- What Next answers, for who looks on. -/
def Told (w : World) (P : List Int) (T E : Int) (e : Ending) (w' : World) : Prop :=
  ∃ A' c', e = .returned (.tuple #[.slice A' P.length c', .int .i64 T, .int .i64 E]) ∧ Lies w' A' P ∧ Below w.heap.size w w'
theorem Nexted.told {i : Int} {e : Ending} (h : Nexted w zs i e w') : Told w (nextP zs i) (nextT zs i) (nextE zs i) e w' := by
  obtain ⟨A', c', he, ho, hb⟩ := h
  exact ⟨A', c', he, Lies.of_own ho, hb⟩
theorem length_nextP (zs : List Int) (i : Int) : (nextP zs i).length ≤ zs.length := by
  unfold nextP
  split
  · unfold nxP; rw [List.length_take, List.length_drop, List.length_drop]; omega
  · simp
theorem nextE_bounds (zs : List Int) (i : Int) : 0 ≤ nextE zs i ∧ nextE zs i ≤ 9 := by
  unfold nextE nxE
  repeat' split
  all_goals omega
theorem pays_le {zs : List Int} : ∀ {J : Nat} {p : List Int}, p ∈ pays zs J → p.length ≤ zs.length
  | 0, p, h => by cases h
  | J + 1, p, h => by
    have h' : p ∈ pays zs J ++ [nxP (zs.drop (plc zs J))] := h
    rcases List.mem_append.1 h' with h1 | h1
    · exact pays_le h1
    · rw [List.mem_singleton] at h1
      subst h1
      unfold nxP; rw [List.length_take, List.length_drop, List.length_drop]; omega
/-- A slice of these bytes, in new memory. -/
def New (w : World) (zs : List Int) (e : Ending) (w' : World) : Prop := ∃ A' c', e = .returned (.slice A' zs.length c') ∧ Lies w' A' zs ∧ Below w.heap.size w w'
theorem Cloned.new {e : Ending} (h : Cloned w zs.length zs e w') : New w zs e w' := by
  obtain ⟨A', c', he, ho, hb⟩ := h
  exact ⟨A', c', he, Lies.of_own ho, hb⟩
theorem same_yes {c d : Nat} (hz : Lies w A zs) (hy : Lies w B zs) (ln : zs.length ≤ 4611686018427387904) :
    Calls Try.prog 14 #[.slice A zs.length c, .slice B zs.length d] w fun e w' => e = .returned (.bool true) ∧ Below w.heap.size w w' := by
  have h := same_any A B zs.length zs.length c d zs zs w rfl rfl hz hy ln ln
  rw [decide_eq_true rfl] at h
  exact h.mono fun _ _ ⟨he, q, hw⟩ => ⟨he, by rw [hw]; exact kept_drewN (kept_refl w) q⟩
theorem lists_yes {J c d : Nat} {L : List (List Int)} (hn : L.length = J) (hL : PartsL w A L) (hM : PartsL w B L) (hc : J ≤ c) (hd : J ≤ d) (ln : J ≤ 4611686018427387904) (sl : ∀ p ∈ L, p.length ≤ 4611686018427387904) :
    Calls Try.prog 16 #[.slice A J c, .slice B J d] w fun e w' => e = .returned (.bool true) ∧ Below w.heap.size w w' := by
  have h := lists_any A B J J c d L L w hn hn hL hM hc hd ln ln sl sl
  rw [decide_eq_true rfl] at h
  exact h.mono fun _ _ ⟨he, q, hw⟩ => ⟨he, by rw [hw]; exact kept_drewN (kept_refl w) q⟩
theorem intact_yes {z : Int} (hn : zs.length = n) (hz : Lies w FA (zs ++ pad 80 z)) (hy : Lies w A zs) (ln : n ≤ 140737488351232) :
    Calls Try.prog 17 #[.slice FA (n + 80) (n + 80), .slice A n c, .int .u8 z] w fun e w' => e = .returned (.bool true) ∧ Below w.heap.size w w' :=
  (intact_any FA A (n + 80) n (n + 80) c (zs ++ pad 80 z) zs z w (by rw [List.length_append, length_pad, hn]) hn hz hy (by omega) (by omega) (by omega) rfl).mono fun _ _ ⟨he, q, hw⟩ => ⟨he, by rw [hw]; exact kept_drewN (kept_refl w) q⟩
end
end Go.Proofs.Ytdmfblobmahfbaa
