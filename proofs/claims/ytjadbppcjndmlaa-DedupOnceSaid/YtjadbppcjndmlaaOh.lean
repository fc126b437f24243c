/- The blocks of DedupOnce's loop. No condition. -/
import Derived.Test.YtjadbppcjndmlaaOn
namespace Go.Proofs.Ytjadbppcjndmlaa
open Go.RowKit
def dV (D : List (Int × Int)) : List (List Value) := D.map fun p => [.int .i64 p.1, .int .i64 p.2]
theorem dV_all (D : List (Int × Int)) : AllV 2 (dV D) := fun x hx => by
  unfold dV at hx
  obtain ⟨p, _, rfl⟩ := List.mem_map.1 hx
  exact ⟨rfl, fun u hu => by simp at hu; rcases hu with rfl | rfl <;> rfl⟩
theorem dV_at {D : List (Int × Int)} {k : Nat} {p : Int × Int} (h : D[k]? = some p) : (dV D)[k]? = some [.int .i64 p.1, .int .i64 p.2] := by unfold dV; rw [List.getElem?_map, h]; rfl
theorem dV_app (D E : List (Int × Int)) : dV (D ++ E) = dV D ++ dV E := List.map_append
def lasA (ls : List Int) : Array Value := (ls.map (Value.int .i64)).toArray
theorem lasA_at {ls : List Int} {k : Nat} {s : Int} (h : ls[k]? = some s) : (lasA ls)[k]? = some (.int .i64 s) := by
  unfold lasA
  rw [List.getElem?_toArray, List.getElem?_map, h]; rfl
theorem lasA_set (ls : List Int) (k : Nat) (s : Int) : (lasA ls).setIfInBounds k (.int .i64 s) = lasA (ls.set k s) := by
  unfold lasA
  rw [List.setIfInBounds_toArray, List.map_set]
theorem fine_any {w w' : World} {L : List Co} (h : Fine w L) (he : ∀ x, x ∈ L → x.o.r.l = []) : Fine w' L := ⟨h.1, fun x hx => by
  obtain ⟨⟨A, c, e, h1, h2, h3, _⟩, h5⟩ := h.2 x hx
  exact ⟨⟨A, c, e, h1, h2, h3, by rw [he x hx]; exact Prs.nil_⟩, h5⟩⟩
structure Hw (W w : World) (g5 g7 : Nat) (L : List Co) (ls : List Int) (D : List (Int × Int)) (v : Value) : Prop where
  r5 : Row w g5 28 (arr L)
  r7 : Row w g7 43 (lasA ls)
  f : Fine w L
  emp : ∀ x, x ∈ L → x.o.r.l = []
  dn : w.ownsRow W.heap.size 46 2 v D.length (cellsV (dV D))
  lo5 : W.heap.size ≤ g5
  lo7 : W.heap.size ≤ g7
  ne : g5 ≠ g7
  bel : Below W.heap.size W w
section
variable {W w w' : World} {g5 g7 : Nat} {L : List Co} {ls : List Int} {D : List (Int × Int)} {v : Value}
theorem Hw.off5 (h : Hw W w g5 g7 L ls D v) : some g5 ≠ v.ownBlock := row_off h.dn h.r5 (by decide)
theorem Hw.off7 (h : Hw W w g5 g7 L ls D v) : some g7 ≠ v.ownBlock := row_off h.dn h.r7 (by decide)
theorem Hw.below (h : Hw W w g5 g7 L ls D v) (hb : Below w.heap.size w w') : Hw W w' g5 g7 L ls D v :=
  ⟨h.r5.below hb h.r5.lt, h.r7.below hb h.r7.lt, fine_any h.f h.emp, h.emp, h.dn.kept (grown_below hb) (by cases v.ownBlock <;> simp), h.lo5, h.lo7, h.ne, h.bel.trans (hb.mono h.bel.size)⟩
theorem Hw.set5 {M : List Co} (h : Hw W w g5 g7 L ls D v) (hf : Fine w M) (he : ∀ x, x ∈ M → x.o.r.l = []) : Hw W (w.setRow g5 (arr M)) g5 g7 M ls D v :=
  ⟨h.r5.setRow _, h.r7.setRow_other (fun e => h.ne e.symm) _, fine_any hf he, he, h.dn.kept (setRow_grown w g5 _) (.inr h.off5.symm), h.lo5, h.lo7, h.ne, below_setRow h.bel h.lo5 _⟩
theorem Hw.put7 (h : Hw W w g5 g7 L ls D v) (k : Nat) (s : Int) : Hw W (w.setCell ⟨g7, k, none⟩ (.int .i64 s)) g5 g7 L (ls.set k s) D v := by
  have z := h.r7.put k (.int .i64 s)
  rw [lasA_set] at z
  exact ⟨h.r5.same (Below.heap_setCell w ⟨g7, k, none⟩ _ g5 h.ne), z, fine_any h.f h.emp, h.emp, h.dn.kept (grown_put (grown_refl w (some g7)) k (.int .i64 s)) (.inr h.off7.symm), h.lo5, h.lo7, h.ne, h.bel.setCell (p := ⟨g7, k, none⟩) h.lo7 _⟩
theorem Hw.app {w1 : World} {p : Int × Int} {v' : Value} (h : Hw W w g5 g7 L ls D v) (hb : Below w.heap.size w w1) (hg : w1.grownBy w' v.ownBlock) (hd : w'.ownsRow W.heap.size 46 2 v' (D.length + 1) (cellsV (dV D ++ [[.int .i64 p.1, .int .i64 p.2]]))) :
    Hw W w' g5 g7 L ls (D ++ [p]) v' := by
  have h1 := h.below hb
  exact ⟨h1.r5.grown hg h.off5, h1.r7.grown hg h.off7, fine_any h.f h.emp, h.emp, by rw [dV_app, List.length_append]; exact hd, h.lo5, h.lo7, h.ne, h1.bel.grown hg h1.bel.size (fun k hk => (h.dn.lt k hk).1)⟩
theorem Hw.form (h : Hw W w g5 g7 L ls D v) : ∃ A c, v = .slice A D.length c ∧ (A = none → c = 0) ∧ D.length ≤ c ∧ Els 2 w A (dV D) := by
  obtain ⟨A, c, rfl, h1, h2, _, _⟩ := own_form h.dn
  exact ⟨A, c, rfl, h1, h2, (els_own h.dn (dV_all D) (by omega)).1⟩
theorem dV_cells {A : Option Addr} {j : Nat} {p : Int × Int} (h : Els 2 w A (dV D)) (hj : D[j]? = some p) : ∃ b off, A = some ⟨b, off, none⟩ ∧ w.cell? ⟨b, off + j * 2, none⟩ = some (.int .i64 p.1) ∧ w.cell? ⟨b, off + j * 2 + 1, none⟩ = some (.int .i64 p.2) := by
  obtain ⟨b, off, e, _, hc⟩ := Els.at_ h (dV_at hj)
  exact ⟨b, off, e, hc 0 (by omega), hc 1 (by omega)⟩
end
theorem Hw.start (W : World) : Hw W ((W.alloc (.cells (arr zeroL) 28)).alloc (.cells #[.int .i64 0, .int .i64 0, .int .i64 0, .int .i64 0, .int .i64 0, .int .i64 0, .int .i64 0, .int .i64 0] 43)) W.heap.size (W.heap.size + 1) zeroL ((ows zeroL).map Ow.s) [] (.slice none 0 0) := by
  have R1 := Row.new (W.alloc (.cells (arr zeroL) 28)) 43 (lasA ((ows zeroL).map Ow.s))
  have hs : (W.alloc (.cells (arr zeroL) 28)).heap.size = W.heap.size + 1 := by simp
  rw [hs] at R1
  have he : ∀ x, x ∈ zeroL → x.o.r.l = [] := fun x hx => by
    have : x = zeroC := by unfold zeroL at hx; simpa using hx
    subst this; rfl
  exact ⟨(Row.new W _ _).alloc _, R1, zero_fine _, he, ⟨rfl, .inl ⟨rfl, rfl⟩⟩, Nat.le_refl _, Nat.le_succ _, by omega, kept_alloc (kept_alloc (kept_refl W) _) _⟩
theorem inst_parts : ∃ i, Try.prog.info? 46 = some i ∧ i.zero = some (.agg #[.int .i64 0, .int .i64 0]) ∧ i.size = 2 ∧ i.bytes = 16 :=
  info_parts (show (Try.prog.info? 46).map (fun i => (i.zero, i.size, i.bytes)) = some (some (.agg #[.int .i64 0, .int .i64 0]), 2, 16) by kernel_rfl)
theorem under_insts : Try.prog.underlying 42 = some (.slice 46) := by kernel_rfl
theorem ows_sat {L : List Co} {k : Nat} {o : Ow} (h : (ows L)[k]? = some o) : ((ows L).map Ow.s)[k]? = some o.s := by rw [List.getElem?_map, h]; rfl
end Go.Proofs.Ytjadbppcjndmlaa
