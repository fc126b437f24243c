/- bytes.Clone, Read of the program's disk. Condition: the length has room. -/
import Derived.Test.YtllgjbkmemheoaaTotal
import Derived.Test.YtllgjbkmemheoaaSame
namespace Go.Proofs.Ytllgjbkmemheoaa
open Go.RowKit Go.Maps
/-- A slice of bytes of the call's own, or nil. -/
theorem own_len {w : World} {base n : Nat} {A : Option Addr} {m c : Nat} {xs : List Value} (h : w.ownsRow base 5 1 (.slice A m c) n xs) : m = n ∧ n ≤ c := by
  rcases h.2 with ⟨hv, hx⟩ | ⟨g, cap, cur, hv, _, _, hnc, _⟩
  · injection hv with _ h2 h3
    subst h2 h3
    have := h.1
    rw [hx] at this
    simp at this
    omega
  · injection hv with _ h2 h3
    subst h2 h3
    exact ⟨rfl, hnc⟩
/-- A slice of these bytes, in new memory or nowhere. -/
def Cloned (w : World) (n : Nat) (zs : List Int) (e : Ending) (w' : World) : Prop := ∃ A' c', e = .returned (.slice A' n c') ∧ w'.ownsRow w.heap.size 5 1 (.slice A' n c') n (cellsOf zs) ∧ Below w.heap.size w w'
set_option maxHeartbeats 1000000 in
theorem clone_any (A : Option Addr) (n c : Nat) (zs : List Int) (w : World) (hn : zs.length = n) (hz : Lies w A zs) (hc : A = none → c = 0) (ln : n ≤ 140737488355328) :
    Calls Try.prog 32 #[.slice A n c] w (Cloned w n zs) := by
  subst hn
  have hnil : ∀ (a : Option Addr) (k c : Nat) (w : World), (binOp .eql 27 (.slice a k c) (.slice none 0 0)).run Try.prog w = .ok (.bool a.isNone) w := fun a k c w => Lib.run_eql_slice_nil w 27 5 a k c 0 0 Try.underlying27
  rcases A with _ | ad
  · have h0 := hz.nil_ rfl
    have hz0 : zs = [] := List.eq_nil_of_length_eq_zero h0
    subst hz0
    obtain rfl := hc rfl
    go_enter Try.func32, Try.ntmps32
    go_wp2
    go_ret
    exact ⟨none, 0, rfl, World.ownsRow_nil _ _ _ _, Below.refl _ _⟩
  · obtain ⟨i0, hi, hz0, hz1, hz2⟩ := info_parts Try.info5
    have hown0 := World.ownsRow_lit (base := w.heap.size) (e := 5) (size := 1) w #[] 0 (Nat.le_refl _) (by unfold maxLen; omega) rfl
    have hz' := hide (hz.alloc (.cells #[] 5))
    clear hc
    go_enter Try.func32, Try.ntmps32
    go_wp2_with (first
      | (at_builtin; refine wpList_append_lies rfl (.tmp 5) (.tmp 6) 27 rfl w.heap.size 5 i0 _ Try.underlying27 hi hz0 hz1 hz2 rfl _ 0 [] rfl hown0 (some ad) zs.length c zs rfl rfl (by intro h; cases h) hz'.out (by omega) (by simp) ?_; intro v1 w1 hown1 hb1; simp only [Nat.zero_add, List.nil_append] at hown1; have hb1' : Below w.heap.size w w1 := ((Below.refl _ _).alloc (Nat.le_refl _) _).trans hb1; clear hb1 hown0 hz' hz))
    obtain ⟨A', c', rfl, _⟩ := own_shape hown1
    go_ret
    exact ⟨A', c', rfl, hown1, hb1'⟩
theorem flen {d : DS} (h : DOk d) {f : Fl} (hf : f ∈ d.l) : f.dt.length ≤ 1048576 := by
  have h1 := total_delF f.nm d.l h.up
  rw [find_of_mem h.up hf] at h1
  have h2 := h.tot
  have h3 := h.q.2
  simp only [lenO] at h1
  omega
/-- What Read answers. -/
def ReadP (w : World) (o : Option Fl) (e : Ending) (w' : World) : Prop :=
  ∃ A c, e = .returned (.tuple #[.slice A (datO o).length c, .bool o.isSome]) ∧ w'.ownsRow w.heap.size 5 1 (.slice A (datO o).length c) (datO o).length (cellsOf (datO o)) ∧ Below w.heap.size w w'
set_option maxRecDepth 100000 in
theorem run_eql_ptr (w : World) (c : Option Addr) : (binOp .eql 60 (.pointer c) (.pointer none)).run Try.prog w = .ok (.bool c.isNone) w := by
  cases c <;> rfl
set_option maxHeartbeats 1000000 in
theorem read_any {S : Nat → Prop} (g : Nat) (nm : ByteArray) (d : DS) (w : World) (h : Dk S w g d) (hn : nm.size ≤ maxLen) :
    Calls Try.prog 14 #[.pointer (some ⟨g, 0, none⟩), .string nm] w (ReadP w (find nm d.l)) := by
  obtain ⟨b, lf, loc, h⟩ := h
  have c1 : w.cell? ⟨g, 1, none⟩ = some (.map (some b)) := h.row.cell 1
  have hl := h.map.look nm hn
  unfold ptrO at hl
  cases hf : find nm d.l with
  | none =>
    rw [hf] at hl
    simp only [Option.map_none] at hl
    clear h hf hn
    go_enter Try.func14, Try.ntmps14
    go_wp2
    go_ret2
    exact ⟨none, 0, rfl, World.ownsRow_nil _ _ _ _, Below.refl _ _⟩
  | some f =>
    rw [hf] at hl
    simp only [Option.map_some] at hl
    obtain ⟨hfm, rfl⟩ := find_mem hf
    have ho := h.files.one f hfm
    have p0 : w.cell? ⟨(loc f.nm).p, 0, none⟩ = some (.slice (loc f.nm).A f.dt.length (loc f.nm).c) := ho.head.cell 0
    have hlen := flen h.ok hfm
    have hcl := hide (clone_any (loc f.nm).A f.dt.length (loc f.nm).c f.dt w rfl ho.lies ho.nil (by omega))
    clear h hf hn ho hfm hlen
    generalize (loc f.nm).A = A at *
    generalize (loc f.nm).c = c at *
    generalize (loc f.nm).p = p at *
    go_enter Try.func14, Try.ntmps14
    go_wp2_with (go_at_call 32; refine hcl.out.mono ?_; rintro e w' ⟨A', c', rfl, hown, hb⟩)
    go_ret2
    exact ⟨A', c', rfl, hown, hb⟩
end Go.Proofs.Ytllgjbkmemheoaa
