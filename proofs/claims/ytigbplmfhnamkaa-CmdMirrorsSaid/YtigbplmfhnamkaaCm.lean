/- Commands as values, by themselves and in slices that come in. No condition. -/
import Derived.Test.YtigbplmfhnamkaaFrame
import Derived.Deep.Slices
import Derived.Deep.Fields
import Derived.ChangeSame
namespace Go.Proofs.Ytigbplmfhnamkaa
open Go.ChangeShapes Go.WideShapes Go.ChangeAt Go.RowKit Go.Joins
/-- A command. -/
structure Cm where
  k : Int
  c : Int
  q : Int
  key : ByteArray
  en : ByteArray
  old : ByteArray
  val : ByteArray
/-- Its cells. -/
def Cm.l (x : Cm) : List Value := [.int .i64 x.k, .int .i64 x.c, .int .i64 x.q, .string x.key, .string x.en, .string x.old, .string x.val]
/-- A number that an int holds. -/
def I64 (n : Int) : Prop := -9223372036854775808 ≤ n ∧ n ≤ 9223372036854775807
structure CmOk (x : Cm) : Prop where
  k : -9223372036854775808 ≤ x.k ∧ x.k ≤ 9223372036854775807
  c : -9223372036854775808 ≤ x.c ∧ x.c ≤ 9223372036854775807
  q : -9223372036854775808 ≤ x.q ∧ x.q ≤ 9223372036854775807
  key : x.key.size ≤ 140737488351232
  en : x.en.size ≤ 140737488351232
  old : x.old.size ≤ 140737488351232
  val : x.val.size ≤ 140737488351232
theorem one_cell {α : Type} {l : List α} {n : Nat} {x : α} (h : (l.drop n).take 1 = [x]) : l[n]? = some x := by
  rcases Nat.lt_or_ge n l.length with h1 | h1
  · rw [List.drop_eq_getElem_cons h1] at h
    injection h with h _
    rw [List.getElem?_eq_getElem h1, h]
  · rw [List.drop_of_length_le h1] at h; cases h
theorem Try.cells23 : Try.prog.cellsOf 23 = 7 := by kernel_rfl
theorem Try.cells3 : Try.prog.cellsOf 3 = 1 := by kernel_rfl
theorem Try.cells9 : Try.prog.cellsOf 9 = 1 := by kernel_rfl
/-- What the seven cells of a command hold. -/
theorem cmd_cells {H : Type} {enc : TypeId × Value → H} {W : World} {base fuel : Nat} {spare : Nat → Bool} {held : Bool} {cs : List Value} {x : DataW H × List MemPlace}
    (ht : DataW.trod enc Try.prog W base spare held fuel 23 cs = some x)
    (hsz : ∀ n ∈ x.1.weights Try.prog 23, n ≤ reachBytes) : ∃ y : Cm, cs = y.l ∧ CmOk y := by
  obtain ⟨ys, n', _, rfl, hlen, hyl, hfs⟩ := DataW.trod_struct Try.underlying23 ht
  rw [Try.cells23] at hlen
  have hyl7 : ys.length = 7 := hyl
  obtain ⟨y0, y1, y2, y3, y4, y5, y6, rfl⟩ : ∃ y0 y1 y2 y3 y4 y5 y6, ys = [y0, y1, y2, y3, y4, y5, y6] := by
    match ys, hyl7 with
    | [y0, y1, y2, y3, y4, y5, y6], _ => exact ⟨y0, y1, y2, y3, y4, y5, y6, rfl⟩
  obtain ⟨c0, c1, c2, c3, c4, c5, c6, rfl⟩ : ∃ c0 c1 c2 c3 c4 c5 c6, cs = [c0, c1, c2, c3, c4, c5, c6] := by
    match cs, hlen with
    | [c0, c1, c2, c3, c4, c5, c6], _ => exact ⟨c0, c1, c2, c3, c4, c5, c6, rfl⟩
  have g0 := hfs 0 _ rfl
  have g1 := hfs 1 _ rfl
  have g2 := hfs 2 _ rfl
  have g3 := hfs 3 _ rfl
  have g4 := hfs 4 _ rfl
  have g5 := hfs 5 _ rfl
  have g6 := hfs 6 _ rfl
  clear hfs
  change DataW.trod enc Try.prog W base spare held n' 3 (([c0, c1, c2, c3, c4, c5, c6].drop 0).take (Try.prog.cellsOf 3)) = some y0 at g0
  change DataW.trod enc Try.prog W base spare held n' 3 (([c0, c1, c2, c3, c4, c5, c6].drop 1).take (Try.prog.cellsOf 3)) = some y1 at g1
  change DataW.trod enc Try.prog W base spare held n' 3 (([c0, c1, c2, c3, c4, c5, c6].drop 2).take (Try.prog.cellsOf 3)) = some y2 at g2
  change DataW.trod enc Try.prog W base spare held n' 9 (([c0, c1, c2, c3, c4, c5, c6].drop 3).take (Try.prog.cellsOf 9)) = some y3 at g3
  change DataW.trod enc Try.prog W base spare held n' 9 (([c0, c1, c2, c3, c4, c5, c6].drop 4).take (Try.prog.cellsOf 9)) = some y4 at g4
  change DataW.trod enc Try.prog W base spare held n' 9 (([c0, c1, c2, c3, c4, c5, c6].drop 5).take (Try.prog.cellsOf 9)) = some y5 at g5
  change DataW.trod enc Try.prog W base spare held n' 9 (([c0, c1, c2, c3, c4, c5, c6].drop 6).take (Try.prog.cellsOf 9)) = some y6 at g6
  rw [Try.cells3] at g0 g1 g2
  rw [Try.cells9] at g3 g4 g5 g6
  obtain ⟨k, e0, _, w0⟩ := DataW.trod_int Try.underlying3 g0
  obtain ⟨c, e1, _, w1⟩ := DataW.trod_int Try.underlying3 g1
  obtain ⟨q, e2, _, w2⟩ := DataW.trod_int Try.underlying3 g2
  obtain ⟨a, e3, f3, _⟩ := DataW.trod_string Try.underlying9 g3
  obtain ⟨b, e4, f4, _⟩ := DataW.trod_string Try.underlying9 g4
  obtain ⟨o, e5, f5, _⟩ := DataW.trod_string Try.underlying9 g5
  obtain ⟨v, e6, f6, _⟩ := DataW.trod_string Try.underlying9 g6
  subst f3 f4 f5 f6
  simp at e0 e1 e2 e3 e4 e5 e6
  subst e0 e1 e2 e3 e4 e5 e6
  have hr : reachBytes = 140737488351232 := rfl
  rw [hr] at hsz
  have hw : ∀ s : ByteArray, (∃ l r : List (DataW H), (DataW.agg ([y0, y1, y2, (.lit (.string a.data.toList), []), (.lit (.string b.data.toList), []), (.lit (.string o.data.toList), []), (.lit (.string v.data.toList), [])].map (·.1)) : DataW H) = .agg (l ++ .lit (.string s.data.toList) :: r) ∧ l.length < 7 ∧ 2 < l.length) → s.size ≤ 140737488351232 := by
    rintro s ⟨l, r, he, hl, hl3⟩
    refine hsz s.data.toList.length ?_
    rw [he]
    unfold DataW.weights
    rw [Try.underlying23]
    have hj : (l ++ (DataW.lit (.string s.data.toList) : DataW H) :: r)[l.length]? = some (.lit (.string s.data.toList)) := by simp
    have ht : ∃ t, ([3, 3, 3, 9, 9, 9, 9] : List TypeId)[l.length]? = some t := ⟨_, List.getElem?_eq_getElem (by simpa using hl)⟩
    obtain ⟨t, ht⟩ := ht
    exact DataW.weights_mem_each (ts := [3, 3, 3, 9, 9, 9, 9]) ht hj _ (by simp [DataW.weights])
  exact ⟨⟨k, c, q, a, b, o, v⟩, rfl, bounds_i64 w0, bounds_i64 w1, bounds_i64 w2, hw a ⟨[y0.1, y1.1, y2.1], _, rfl, by simp, by simp⟩, hw b ⟨[y0.1, y1.1, y2.1, _], _, rfl, by simp, by simp⟩,
    hw o ⟨[y0.1, y1.1, y2.1, _, _], _, rfl, by simp, by simp⟩, hw v ⟨[y0.1, y1.1, y2.1, _, _, _], _, rfl, by simp, by simp⟩⟩
/-- A command that came in. -/
theorem cmd_in {H : Type} {enc : TypeId × Value → H} {W : World} {base b0 : Nat} {spare : Nat → Bool} {held : Bool} {r : Reach} {v : Value} {d : DataW H} {p : List MemPlace} {ts : List TypeId} {ds : List (DataW H)} {j : Nat}
    (hv : Value.okWide Try.prog W r b0 23 v) (h : DataW.Trod enc Try.prog W base spare held 23 v d p) (hsz : (DataW.weightsEach Try.prog ts ds).all (· ≤ reachBytes) = true) (ht : ts[j]? = some 23) (hd : ds[j]? = some d) :
    ∃ y : Cm, v = .agg #[.int .i64 y.k, .int .i64 y.c, .int .i64 y.q, .string y.key, .string y.en, .string y.old, .string y.val] ∧ CmOk y := by
  obtain ⟨cs, rfl, hcs⟩ := okWide_struct Try.underlying23 hv
  obtain ⟨fuel, hf⟩ := h
  obtain ⟨y, hy, ok⟩ := cmd_cells hf fun n hn => by
    have := List.all_eq_true.1 hsz _ (DataW.weights_mem_each ht hd n hn)
    simpa using this
  have e : cs.toList = y.l := hy
  refine ⟨y, ?_, ok⟩
  obtain ⟨l⟩ := cs
  simp only at e
  rw [e]; rfl
/-- What lies at command j of a slice that begins at ⟨b, off⟩. -/
structure CmAt (w : World) (b off j : Nat) (x : Cm) : Prop where
  c0 : w.cell? ⟨b, off + j * 7, none⟩ = some (.int .i64 x.k)
  c1 : w.cell? ⟨b, off + j * 7 + 1, none⟩ = some (.int .i64 x.c)
  c2 : w.cell? ⟨b, off + j * 7 + 2, none⟩ = some (.int .i64 x.q)
  c3 : w.cell? ⟨b, off + j * 7 + 3, none⟩ = some (.string x.key)
  c4 : w.cell? ⟨b, off + j * 7 + 4, none⟩ = some (.string x.en)
  c5 : w.cell? ⟨b, off + j * 7 + 5, none⟩ = some (.string x.old)
  c6 : w.cell? ⟨b, off + j * 7 + 6, none⟩ = some (.string x.val)
theorem CmAt.below {w w' : World} {B b off j : Nat} {x : Cm} (h : CmAt w b off j x) (hb : Below B w w') (hl : b < B) : CmAt w' b off j x :=
  ⟨(hb.cell (p := ⟨b, off + j * 7, none⟩) hl).trans h.c0, (hb.cell (p := ⟨b, off + j * 7 + 1, none⟩) hl).trans h.c1, (hb.cell (p := ⟨b, off + j * 7 + 2, none⟩) hl).trans h.c2, (hb.cell (p := ⟨b, off + j * 7 + 3, none⟩) hl).trans h.c3,
    (hb.cell (p := ⟨b, off + j * 7 + 4, none⟩) hl).trans h.c4, (hb.cell (p := ⟨b, off + j * 7 + 5, none⟩) hl).trans h.c5, (hb.cell (p := ⟨b, off + j * 7 + 6, none⟩) hl).trans h.c6⟩
/-- A slice of commands that came in. -/
structure CmsIn (w : World) (A : Option Addr) (n c : Nat) (it : Nat → Cm) : Prop where
  le : n ≤ c
  room : c ≤ 9223372036854775807
  ok : ∀ j, j < n → CmOk (it j)
  at_ : ∀ j, j < n → ∃ b off, A = some ⟨b, off, none⟩ ∧ b < w.heap.size ∧ CmAt w b off j (it j)
theorem weights_all {H : Type} {P : Program} {e : TypeId} : ∀ {ds : List (DataW H)} {d : DataW H}, d ∈ ds → ∀ n ∈ d.weights P e, n ∈ DataW.weightsAll P e ds
  | x :: r, d, hd, n, hn => by
    rw [DataW.weightsAll, List.mem_append]
    rcases List.mem_cons.1 hd with rfl | hd
    · exact .inl hn
    · exact .inr (weights_all hd n hn)
theorem cmds_in {H : Type} {enc : TypeId × Value → H} {W : World} {A : Option Addr} {n c : Nat} {d : DataW H} {p : List MemPlace} {ts : List TypeId} {ds : List (DataW H)} {j : Nat}
    (h : DataW.Trod enc Try.prog W 0 (fun _ => true) true 47 (.slice A n c) d p) (hsz : (DataW.weightsEach Try.prog ts ds).all (· ≤ reachBytes) = true) (ht : ts[j]? = some 47) (hd : ds[j]? = some d) : ∃ it, CmsIn W A n c it := by
  obtain ⟨fuel, hf⟩ := h
  have hw : ∀ n ∈ d.weights Try.prog 47, n ≤ reachBytes := fun n hn => by
    have := List.all_eq_true.1 hsz _ (DataW.weights_mem_each ht hd n hn)
    simpa using this
  rcases Go.Deep.open_slice Try.underlying47 hf with ⟨hcs, _⟩ | ⟨a, len, cap, m, nf, D, Pl, hcs, _, hl, hm, hmm, hx, hi⟩
  · simp [Value.cells] at hcs
    obtain ⟨rfl, rfl, rfl⟩ := hcs
    exact ⟨fun _ => ⟨0, 0, 0, ⟨#[]⟩, ⟨#[]⟩, ⟨#[]⟩, ⟨#[]⟩⟩, Nat.le_refl _, by omega, fun j hj => absurd hj (by omega), fun j hj => absurd hj (by omega)⟩
  · simp [Value.cells] at hcs
    obtain ⟨rfl, rfl, rfl⟩ := hcs
    have hmc : m = c := by simpa using hmm
    simp only [Prod.mk.injEq] at hx
    have hx1 := hx.1
    have each : ∀ j, j < n → ∃ x : Cm, CmOk x ∧ ∃ b off, a = ⟨b, off, none⟩ ∧ b < W.heap.size ∧ CmAt W b off j x := by
      intro j hj
      obtain ⟨cs', hc, ht'⟩ := hi j (by omega)
      rw [Try.cells23] at hc
      obtain ⟨_, hlen, hat⟩ := World.cells?_some hc
      obtain ⟨x, rfl, ok⟩ := cmd_cells ht' fun k hk => by
        apply hw
        rw [hx1]
        unfold DataW.weights
        rw [Try.underlying47]
        refine List.mem_cons_of_mem _ (List.mem_append_left _ (weights_all (d := D j) ?_ k hk))
        exact List.mem_map.2 ⟨j, List.mem_range.2 hj, rfl⟩
      have hsp : a.spot = none := by
        obtain ⟨cs0, hc0, ht0⟩ := hi 0 (by omega)
        rw [Try.cells23] at hc0
        obtain ⟨_, hlen0, hat0⟩ := World.cells?_some hc0
        have h0 := hat0 0 (by omega)
        rw [List.getElem?_eq_getElem (by omega)] at h0
        have := World.cell?_spot h0
        unfold Addr.add at this
        simpa using this
      obtain ⟨b, off, spot⟩ := a
      obtain rfl : spot = none := hsp
      have a0 := hat 0 (by omega)
      have a1 := hat 1 (by omega)
      have a2 := hat 2 (by omega)
      have a3 := hat 3 (by omega)
      have a4 := hat 4 (by omega)
      have a5 := hat 5 (by omega)
      have a6 := hat 6 (by omega)
      rw [Go.WideShapes.add_plain, Go.WideShapes.add_plain] at a0 a1 a2 a3 a4 a5 a6
      refine ⟨x, ok, b, off, rfl, ?_, a0, a1, a2, a3, a4, a5, a6⟩
      rcases Nat.lt_or_ge b W.heap.size with h1 | h1
      · exact h1
      · simp [World.cell?, Array.getElem?_eq_none h1, Cm.l] at a0
    refine ⟨fun j => if h : j < n then Classical.choose (each j h) else ⟨0, 0, 0, ⟨#[]⟩, ⟨#[]⟩, ⟨#[]⟩, ⟨#[]⟩⟩, hl, hm, fun j hj => ?_, fun j hj => ?_⟩
    · obtain ⟨ok, _⟩ := Classical.choose_spec (each j hj)
      simp only [dif_pos hj]
      exact ok
    · obtain ⟨_, b, off, rfl, hb, hx⟩ := Classical.choose_spec (each j hj)
      refine ⟨b, off, rfl, hb, ?_⟩
      simp only [dif_pos hj]
      exact hx
end Go.Proofs.Ytigbplmfhnamkaa
