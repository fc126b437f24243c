/- The calls of layer 11's laws, as they come in. No condition. -/
import Derived.Test.YtmcemijipplkgaaIn
namespace Go.Proofs.Ytmcemijipplkgaa
open Go.ChangeShapes Go.WideShapes Go.ChangeAt Go.RowKit Go.Joins
/-- A call: its kind, a key, a value, a span. -/
structure Ka where
  d : Int
  k : ByteArray
  v : ByteArray
  lo : ByteArray
  hi : ByteArray
def Ka.l (x : Ka) : List Value := [.int .i64 x.d, .string x.k, .string x.v, .string x.lo, .string x.hi]
theorem Try.cells49 : Try.prog.cellsOf 49 = 5 := by kernel_rfl
theorem Try.bytes49 : Try.prog.bytesOf 49 = 72 := by kernel_rfl
theorem span_cells {H : Type} {enc : TypeId × Value → H} {W : World} {fuel : Nat} {cs : List Value} {x : DataW H × List MemPlace}
    (ht : DataW.trod enc Try.prog W 0 (fun _ => true) true fuel 35 cs = some x) : ∃ a b : ByteArray, cs = [.string a, .string b] := by
  obtain ⟨ys, n', _, _, hlen, hyl, hfs⟩ := DataW.trod_struct Try.underlying35 ht
  rw [Try.cells35] at hlen
  have hyl2 : ys.length = 2 := hyl
  obtain ⟨y0, y1, rfl⟩ : ∃ y0 y1, ys = [y0, y1] := by
    match ys, hyl2 with
    | [y0, y1], _ => exact ⟨y0, y1, rfl⟩
  obtain ⟨c0, c1, rfl⟩ : ∃ c0 c1, cs = [c0, c1] := by
    match cs, hlen with
    | [c0, c1], _ => exact ⟨c0, c1, rfl⟩
  have g0 := hfs 0 _ rfl
  have g1 := hfs 1 _ rfl
  clear hfs
  change DataW.trod enc Try.prog W 0 (fun _ => true) true n' 9 (([c0, c1].drop 0).take (Try.prog.cellsOf 9)) = some y0 at g0
  change DataW.trod enc Try.prog W 0 (fun _ => true) true n' 9 (([c0, c1].drop 1).take (Try.prog.cellsOf 9)) = some y1 at g1
  rw [Try.cells9] at g0 g1
  obtain ⟨a, e0, _, _⟩ := DataW.trod_string Try.underlying9 g0
  obtain ⟨b, e1, _, _⟩ := DataW.trod_string Try.underlying9 g1
  simp at e0 e1
  subst e0 e1
  exact ⟨a, b, rfl⟩
theorem ask_cells {H : Type} {enc : TypeId × Value → H} {W : World} {fuel : Nat} {cs : List Value} {x : DataW H × List MemPlace}
    (ht : DataW.trod enc Try.prog W 0 (fun _ => true) true fuel 49 cs = some x) : ∃ y : Ka, cs = y.l ∧ I64 y.d := by
  obtain ⟨ys, n', _, _, hlen, hyl, hfs⟩ := DataW.trod_struct Try.underlying49 ht
  rw [Try.cells49] at hlen
  have hyl4 : ys.length = 4 := hyl
  obtain ⟨y0, y1, y2, y3, rfl⟩ : ∃ y0 y1 y2 y3, ys = [y0, y1, y2, y3] := by
    match ys, hyl4 with
    | [y0, y1, y2, y3], _ => exact ⟨y0, y1, y2, y3, rfl⟩
  obtain ⟨c0, c1, c2, c3, c4, rfl⟩ : ∃ c0 c1 c2 c3 c4, cs = [c0, c1, c2, c3, c4] := by
    match cs, hlen with
    | [c0, c1, c2, c3, c4], _ => exact ⟨c0, c1, c2, c3, c4, rfl⟩
  have g0 := hfs 0 _ rfl
  have g1 := hfs 1 _ rfl
  have g2 := hfs 2 _ rfl
  have g3 := hfs 3 _ rfl
  clear hfs
  change DataW.trod enc Try.prog W 0 (fun _ => true) true n' 3 (([c0, c1, c2, c3, c4].drop 0).take (Try.prog.cellsOf 3)) = some y0 at g0
  change DataW.trod enc Try.prog W 0 (fun _ => true) true n' 9 (([c0, c1, c2, c3, c4].drop 1).take (Try.prog.cellsOf 9)) = some y1 at g1
  change DataW.trod enc Try.prog W 0 (fun _ => true) true n' 9 (([c0, c1, c2, c3, c4].drop 2).take (Try.prog.cellsOf 9)) = some y2 at g2
  change DataW.trod enc Try.prog W 0 (fun _ => true) true n' 35 (([c0, c1, c2, c3, c4].drop 3).take (Try.prog.cellsOf 35)) = some y3 at g3
  rw [Try.cells3] at g0
  rw [Try.cells9] at g1 g2
  rw [Try.cells35] at g3
  obtain ⟨k, e0, _, w0⟩ := DataW.trod_int Try.underlying3 g0
  obtain ⟨a, e1, _, _⟩ := DataW.trod_string Try.underlying9 g1
  obtain ⟨b, e2, _, _⟩ := DataW.trod_string Try.underlying9 g2
  obtain ⟨lo, hi, e3⟩ := span_cells g3
  simp at e0 e1 e2 e3
  obtain ⟨e3, e4⟩ := e3
  subst e0 e1 e2 e3 e4
  exact ⟨⟨k, a, b, lo, hi⟩, rfl, bounds_i64 w0⟩
/-- A slice of calls that came in. -/
structure KasIn (w : World) (A : Option Addr) (n c : Nat) (l : List Ka) : Prop where
  len : l.length = n
  le : n ≤ c
  room : c ≤ 9223372036854775807
  ok : ∀ y ∈ l, I64 y.d
  lies : Els 5 w A (l.map Ka.l)
theorem kasks_in {H : Type} {enc : TypeId × Value → H} {W : World} {A : Option Addr} {n c : Nat} {d : DataW H} {p : List MemPlace} {ts : List TypeId} {ds : List (DataW H)} {j : Nat}
    (h : DataW.Trod enc Try.prog W 0 (fun _ => true) true 45 (.slice A n c) d p) (hsz : (DataW.weightsEach Try.prog ts ds).all (· ≤ reachBytes) = true) (ht : ts[j]? = some 45) (hd : ds[j]? = some d) : ∃ l, KasIn W A n c l := by
  obtain ⟨fuel, hf⟩ := h
  obtain ⟨l, h1, h2, h3, _, _, h6, h7⟩ := els_in Ka.l (fun y => I64 y.d) Try.underlying45 Try.cells49 (by omega) Try.bytes49 (fun ht _ => ask_cells ht) hf (fun n hn => by
    have := List.all_eq_true.1 hsz _ (DataW.weights_mem_each ht hd n hn)
    simpa using this)
  exact ⟨l, h1, h2, by unfold maxLen at h3; omega, h6, h7⟩
/-- What lies at call j. -/
theorem Els.ka {w : World} {A : Option Addr} {l : List Ka} {j : Nat} {x : Ka} (h : Els 5 w A (l.map Ka.l)) (hj : l[j]? = some x) : ∃ b off, A = some ⟨b, off, none⟩ ∧ b < w.heap.size ∧ w.cell? ⟨b, off + j * 5, none⟩ = some (.int .i64 x.d) ∧ w.cell? ⟨b, off + j * 5 + 1, none⟩ = some (.string x.k) ∧
    w.cell? ⟨b, off + j * 5 + 2, none⟩ = some (.string x.v) ∧ w.cell? ⟨b, off + j * 5 + 3, none⟩ = some (.string x.lo) ∧ w.cell? ⟨b, off + j * 5 + 4, none⟩ = some (.string x.hi) := by
  obtain ⟨b, off, e, hb, hc⟩ := Els.at_ h (by rw [List.getElem?_map, hj]; rfl)
  exact ⟨b, off, e, hb, hc 0 (by omega), hc 1 (by omega), hc 2 (by omega), hc 3 (by omega), hc 4 (by omega)⟩
end Go.Proofs.Ytmcemijipplkgaa
