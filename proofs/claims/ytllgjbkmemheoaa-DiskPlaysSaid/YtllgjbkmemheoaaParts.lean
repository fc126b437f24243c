/- Parts that came in, in the midst of a walk. No condition. -/
import Derived.Test.YtllgjbkmemheoaaCalls
import Derived.Test.YtllgjbkmemheoaaArgs
namespace Go.Proofs.Ytllgjbkmemheoaa
open Go.RowKit Go.Maps
/-- A part, cut to so many. -/
theorem cut_arg (k : Nat) {W w : World} {X : Nat → Prop} {A : Option Addr} {n c : Nat} {zs : List Int} (h : SliceIn W A n c zs) (hb : Below W.heap.size W w) (hX : ∀ b, b < W.heap.size → X b) : Arg X w A (min k n) c (zs.take k) :=
  ⟨by rw [List.length_take, h.len], (h.lies.take k).below hb, fun hn a ha => (h.inX hX) (by rw [List.length_take] at hn; omega) a ha, fun z hz => h.oct z (List.mem_of_mem_take hz), h.nil⟩
/-- The round's part and what it makes. -/
theorem part_cell {W w : World} {A : Option Addr} {m c : Nat} {it : Nat → Sb} (h : PartsIn W A m c it) (hb : Below W.heap.size W w) {i : Nat} (hi : i < m) : ∃ b off, A = some ⟨b, off, none⟩ ∧ w.cell? ⟨b, off + i, none⟩ = some (.slice (it i).A (it i).n (it i).c) ∧ SliceIn W (it i).A (it i).n (it i).c (it i).zs := by
  obtain ⟨b, off, e, hl, hc, hs⟩ := h.at_ i hi
  exact ⟨b, off, e, (hb.cell (p := ⟨b, off + i, none⟩) hl).trans hc, hs⟩
end Go.Proofs.Ytllgjbkmemheoaa
