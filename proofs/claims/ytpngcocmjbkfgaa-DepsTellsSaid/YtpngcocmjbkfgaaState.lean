/- A reader behind a pointer: its bytes, its place, its error; what becomes of it when other memory is written; what each call comes to, in plain words. No condition. -/
import Derived.Test.YtpngcocmjbkfgaaRead
import Derived.Test.YtpngcocmjbkfgaaBlk
namespace Go.Proofs.Ytpngcocmjbkfgaa
open Go.RowKit
/-- Bytes that lie below block B. -/
def Deep (w : World) (B : Nat) (A : Option Addr) (zs : List Int) : Prop :=
  0 < zs.length → ∃ b off, A = some ⟨b, off, none⟩ ∧ b < B ∧ ∀ k, k < zs.length → w.cell? ⟨b, off + k, none⟩ = some (.int .u8 (ix zs k))
theorem Deep.keep {w w' : World} {B : Nat} {A : Option Addr} {zs : List Int} (h : Deep w B A zs) (hb : ∀ k, k < B → w'.heap[k]? = w.heap[k]?) : Deep w' B A zs := fun hn => by
  obtain ⟨b, off, e, hlt, hc⟩ := h hn
  exact ⟨b, off, e, hlt, fun k hk => (World.cell?_of_block (w := w) (a := ⟨b, off + k, none⟩) (hb b hlt)).trans (hc k hk)⟩
theorem Deep.lies {w : World} {B : Nat} {A : Option Addr} {zs : List Int} (h : Deep w B A zs) (hB : B ≤ w.heap.size) : Lies w A zs := fun hn => by
  obtain ⟨b, off, e, hlt, hc⟩ := h hn
  exact ⟨b, off, e, by omega, hc⟩
theorem Lies.deep {w : World} {A : Option Addr} {zs : List Int} (h : Lies w A zs) : Deep w w.heap.size A zs := h


/-- The reader at block g (of type t): bytes zs that lie below block B, place i, error e. -/
structure Rdr (t : TypeId) (w : World) (B g : Nat) (zs : List Int) (i : Nat) (e : Int) : Prop where
  row : ∃ A n c, Row w g t #[.slice A n c, .int .i64 i, .int .i64 e] ∧ zs.length = n ∧ n ≤ c ∧ n ≤ 4611686018427387904 ∧ Deep w B A zs
  oct : Octets zs
  here : i ≤ zs.length
  low : B ≤ g
  err : 0 ≤ e ∧ e ≤ 9
section
variable {t : TypeId} {w w' : World} {B g i : Nat} {zs : List Int} {e : Int}
theorem Rdr.keep (h : Rdr t w B g zs i e) (hb : ∀ k, k < B → w'.heap[k]? = w.heap[k]?) (hg : w'.heap[g]? = w.heap[g]?) : Rdr t w' B g zs i e := by
  obtain ⟨⟨A, n, c, hr, h1, h2, h3, hd⟩, ho, hi, hl, he⟩ := h
  exact ⟨⟨A, n, c, hg.trans hr, h1, h2, h3, hd.keep hb⟩, ho, hi, hl, he⟩
theorem Rdr.lt (h : Rdr t w B g zs i e) : g < w.heap.size := by
  obtain ⟨⟨A, n, c, hr, _⟩, _⟩ := h
  exact hr.lt
theorem Rdr.drewN (h : Rdr t w B g zs i e) (n : Nat) : Rdr t (w.drewN n) B g zs i e := h.keep (fun _ _ => rfl) rfl
theorem Rdr.below (h : Rdr t w B g zs i e) (hb : Below w.heap.size w w') : Rdr t w' B g zs i e :=
  have hl := h.lt
  have hB := h.low
  h.keep (fun k hk => hb.block k (by omega)) (hb.block g hl)
theorem Rdr.alloc (h : Rdr t w B g zs i e) (o : Obj) : Rdr t (w.alloc o) B g zs i e := h.below ((Below.refl _ _).alloc (Nat.le_refl _) o)
theorem Rdr.far {k : Nat} (h : Rdr t w B g zs i e) (hg : w.grownBy w' (some k)) (hk : k ≠ g) (hB : B ≤ k) : Rdr t w' B g zs i e :=
  have hl := h.lt
  have hBg := h.low
  h.keep (fun j hj => hg.block j (by omega) (fun e => by injection e; omega)) (hg.block g hl (fun e => by injection e; omega))
theorem Rdr.place (h : Rdr t w B g zs i e) {j : Nat} (hj : j ≤ zs.length) : Rdr t (w.setCell ⟨g, 1, none⟩ (.int .i64 j)) B g zs j e := by
  obtain ⟨⟨A, n, c, hr, h1, h2, h3, hd⟩, ho, hi, hl, he⟩ := h
  exact ⟨⟨A, n, c, hr.put 1 _, h1, h2, h3, hd.keep fun k hk => Below.heap_setCell _ _ _ _ (by show k ≠ g; omega)⟩, ho, hj, hl, he⟩
theorem Rdr.wrong (h : Rdr t w B g zs i e) {y : Int} (hy : 0 ≤ y ∧ y ≤ 9) : Rdr t (w.setCell ⟨g, 2, none⟩ (.int .i64 y)) B g zs i y := by
  obtain ⟨⟨A, n, c, hr, h1, h2, h3, hd⟩, ho, hi, hl, he⟩ := h
  exact ⟨⟨A, n, c, hr.put 2 _, h1, h2, h3, hd.keep fun k hk => Below.heap_setCell _ _ _ _ (by show k ≠ g; omega)⟩, ho, hi, hl, hy⟩
/-- What a walk needs of a reader. -/
theorem Rdr.cells (h : Rdr t w B g zs i e) : ∃ A c, w.cell? ⟨g, 0, none⟩ = some (.slice A zs.length c) ∧ w.cell? ⟨g, 1, none⟩ = some (.int .i64 i) ∧ w.cell? ⟨g, 2, none⟩ = some (.int .i64 e) ∧
    w.frozen? ⟨g, 1, none⟩ = false ∧ w.frozen? ⟨g, 2, none⟩ = false ∧ zs.length ≤ c ∧ zs.length ≤ 4611686018427387904 ∧ Lies w A zs := by
  have hl := h.lt
  obtain ⟨⟨A, n, c, hr, rfl, h2, h3, hd⟩, ho, hi, hlo, he⟩ := h
  exact ⟨A, c, hr.cell 0, hr.cell 1, hr.cell 2, hr.free 1, hr.free 2, h2, h3, hd.lies (by omega)⟩
/-- The same, and where the bytes lie. -/
theorem Rdr.deeps (h : Rdr t w B g zs i e) : ∃ A c, w.cell? ⟨g, 0, none⟩ = some (.slice A zs.length c) ∧ w.cell? ⟨g, 1, none⟩ = some (.int .i64 i) ∧ w.cell? ⟨g, 2, none⟩ = some (.int .i64 e) ∧
    w.frozen? ⟨g, 1, none⟩ = false ∧ w.frozen? ⟨g, 2, none⟩ = false ∧ zs.length ≤ c ∧ zs.length ≤ 4611686018427387904 ∧ Deep w B A zs := by
  obtain ⟨⟨A, n, c, hr, rfl, h2, h3, hd⟩, ho, hi, hlo, he⟩ := h
  exact ⟨A, c, hr.cell 0, hr.cell 1, hr.cell 2, hr.free 1, hr.free 2, h2, h3, hd⟩
theorem Deep.far {A : Option Addr} {ys : List Int} (h : Deep w B A ys) (hg : w.grownBy w' (some g)) (hB : B ≤ g) (hl : g < w.heap.size) : Lies w' A ys :=
  (h.keep (w' := w') fun j hj => hg.block j (by omega) (fun e => by injection e; omega)).lies (by have := hg.size; omega)
end

/-! ### What each call comes to: the error, the answer, the place -/
def rNumE (zs : List Int) (i : Nat) (e : Int) : Int := if e = 0 then rdE (zs.drop i) else e
def rNumV (zs : List Int) (i : Nat) (e : Int) : Int := if rNumE zs i e = 0 then rdV (zs.drop i) else 0
def rNumA (zs : List Int) (i : Nat) (e : Int) : Nat := if rNumE zs i e = 0 then i + rdS (zs.drop i) else i
def cntE (ys : List Int) (m : Int) : Int := if rdE ys = 0 then (if rdV ys < 0 ∨ m < rdV ys then 2 else 0) else rdE ys
def cntV (ys : List Int) (m : Int) : Int := if cntE ys m = 0 then rdV ys else 0
def cntS (ys : List Int) (m : Int) : Nat := if cntE ys m = 0 then rdS ys else 0
/-- The first of two errors. -/
def erst (e y : Int) : Int := if e = 0 then y else e
theorem erst_zero (y : Int) : erst 0 y = y := by unfold erst; rw [if_pos rfl]
theorem erst_pos {e : Int} (h : e ≠ 0) (y : Int) : erst e y = e := by unfold erst; rw [if_neg h]
def rCntE (zs : List Int) (i : Nat) (e m : Int) : Int := if e = 0 then cntE (zs.drop i) m else e
def rCntV (zs : List Int) (i : Nat) (e m : Int) : Int := if rCntE zs i e m = 0 then rdV (zs.drop i) else 0
def rCntA (zs : List Int) (i : Nat) (e m : Int) : Nat := if rCntE zs i e m = 0 then i + rdS (zs.drop i) else i
def txtE (ys : List Int) (m : Int) : Int := if cntE ys m = 0 then (if (ys.length : Int) - (rdS ys : Nat) < rdV ys then 3 else 0) else cntE ys m
def rTxtE (zs : List Int) (i : Nat) (e m : Int) : Int := if e = 0 then txtE (zs.drop i) m else e
def rTxtV (zs : List Int) (i : Nat) (e m : Int) : List Int := if rTxtE zs i e m = 0 then ((zs.drop i).drop (rdS (zs.drop i))).take (rdV (zs.drop i)).toNat else []
def rTxtA (zs : List Int) (i : Nat) (e m : Int) : Nat := if rTxtE zs i e m = 0 then i + rdS (zs.drop i) + (rdV (zs.drop i)).toNat else i
def rFlgE (zs : List Int) (i : Nat) (e : Int) : Int := if e = 0 then (if i < zs.length then (if 1 < ix zs i then 4 else 0) else 3) else e
def rFlgV (zs : List Int) (i : Nat) (e : Int) : Bool := decide (rFlgE zs i e = 0 ∧ ix zs i = 1)
def rFlgA (zs : List Int) (i : Nat) (e : Int) : Nat := if rFlgE zs i e = 0 then i + 1 else i
def rEndE (zs : List Int) (i : Nat) (e : Int) : Int := if e = 0 then (if i < zs.length then 5 else 0) else e
def rFailE (e : Int) : Int := if e = 0 then 4 else e
/-- The bytes as a string. -/
def strOf (zs : List Int) : ByteArray := ⟨(zs.map fun z => UInt8.ofNat z.toNat).toArray⟩
theorem str_strL (s : ByteArray) : strOf (strL s) = s := by
  obtain ⟨l⟩ := s
  unfold strOf strL
  congr 1
  rw [List.map_map]
  apply Array.ext'
  rw [List.toList_toArray]
  have : ∀ bs : List UInt8, List.map ((fun z : Int => UInt8.ofNat z.toNat) ∘ fun b => (b.toNat : Int)) bs = bs := by
    intro bs
    induction bs with
    | nil => rfl
    | cons b bs ih => rw [List.map_cons, ih]; congr 1; simp
  exact this l.toList
theorem octets_drop {zs : List Int} (h : Octets zs) (k : Nat) : Octets (zs.drop k) := fun z hz => h z (List.mem_of_mem_drop hz)
theorem octets_take {zs : List Int} (h : Octets zs) (k : Nat) : Octets (zs.take k) := fun z hz => h z (List.mem_of_mem_take hz)
theorem cntE_bounds {ys : List Int} (ho : Octets ys) (m : Int) : 0 ≤ cntE ys m ∧ cntE ys m ≤ 4 := by
  have := rd_bounds ho
  unfold cntE; split
  · split <;> omega
  · omega
theorem txtE_bounds {ys : List Int} (ho : Octets ys) (m : Int) : 0 ≤ txtE ys m ∧ txtE ys m ≤ 4 := by
  have := cntE_bounds ho m
  unfold txtE; split
  · split <;> omega
  · omega
end Go.Proofs.Ytpngcocmjbkfgaa
