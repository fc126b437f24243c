/- What number and count of package pack come to. Conditions: the slice lies in memory and holds bytes, its length has room. -/
import Derived.Test.YtkmcnhjfnjikaaaGreatDoorKpse
import Derived.Test.YtkmcnhjfnjikaaaGreatDoorKbas
import Derived.BigQuiet
import Derived.Deep.QuietTactic
import Derived.Laws.BytesArg
namespace Go.Proofs.YtkmcnhjfnjikaaaGreatDoor
open Go.RowKit
theorem or_step {v q k : Nat} (hv : v < 128 ^ k) (h : v + q * 128 ^ k < 18446744073709551616) :
    bits .or .u64 (v : Int) (IntKind.u64.wrap ((q : Int) * 2 ^ (k * 7))) = ((v + q * 128 ^ k : Nat) : Int) := by
  have e : (q : Int) * 2 ^ (k * 7) = ((q * 128 ^ k : Nat) : Int) := by
    rw [Int.natCast_mul, Int.natCast_pow, Nat.mul_comm k 7, Int.pow_mul]; rfl
  rw [e, IntWalk.u64_in _ ⟨by omega, by omega⟩, u64_or_nat v _ (by omega) (by omega)]
  rw [pow128_two] at *
  rw [Nat.mul_comm q, Nat.or_comm, ← Nat.two_pow_add_eq_or_of_lt hv, Nat.add_comm]
theorem drop_ix {zs : List Int} {k : Nat} (h : k < zs.length) : zs.drop k = ix zs k :: zs.drop (k + 1) := by
  rw [List.drop_eq_getElem_cons h, ix_lt zs h]
theorem ret_three {k l m : IntKind} {a b c d x y : Int} (h : a = b) (g : c = d) (i : x = y) : Ending.returned (.tuple #[.int k a, .int l c, .int m x]) = .returned (.tuple #[.int k b, .int l d, .int m y]) := by rw [h, g, i]
theorem rd_of {zs : List Int} {v s : Nat} {e : Int} (h : rdN 0 0 zs = (v, s, e)) : rdV zs = zagI v ∧ rdS zs = s ∧ rdE zs = e := by
  unfold rdV rdS rdE; rw [h]; exact ⟨rfl, rfl, rfl⟩
theorem rd_none {zs : List Int} {e : Int} (h : rdN 0 0 zs = (0, 0, e)) : rdV zs = 0 ∧ ((rdS zs : Nat) : Int) = 0 ∧ rdE zs = e := by
  obtain ⟨a, b, c⟩ := rd_of h
  exact ⟨a, by rw [b]; rfl, c⟩
theorem low7_int {p : Int} {q : Nat} (w : World) (h0 : 0 ≤ p) (h1 : p ≤ 255) (hq : (p % 128).toNat = q) :
    Calls Tryz.prog 88 #[.int .u64 p, .int .i64 7] w fun e w' => e = .returned (.int .u64 (q : Nat)) ∧ w = w' := by
  obtain ⟨P, rfl⟩ := Int.eq_ofNat_of_zero_le h0
  exact low7_to (v := P) w (by omega) (by omega)
/-- What the tests of a byte say. -/
theorem tests {k : Nat} {p : Int} (hk : k ≤ 9) (h : ¬ ((0 < k ∧ p = 0) ∨ (k = 9 ∧ 1 < p))) :
    (decide (0 < k) = false ∧ decide (0 < (k : Int)) = false ∧ ((k : Int) == 9) = false) ∨ (decide (0 < k) = true ∧ decide (0 < (k : Int)) = true ∧ (p == 0) = false ∧ ((k : Int) == 9) = false) ∨
    (decide (0 < k) = true ∧ decide (0 < (k : Int)) = true ∧ (p == 0) = false ∧ ((k : Int) == 9) = true ∧ decide (1 < p) = false) := by
  by_cases h0 : k = 0
  · left; subst h0; exact ⟨by decide, by decide, by decide⟩
  · right
    have a : decide (0 < (k : Int)) = true := by rw [decide_eq_true_iff]; omega
    have a' : decide (0 < k) = true := by rw [decide_eq_true_iff]; omega
    have b : (p == 0) = false := by rw [beq_eq_false_iff_ne]; omega
    by_cases h9 : k = 9
    · right; subst h9; exact ⟨a', a, b, by decide, by rw [decide_eq_false_iff_not]; omega⟩
    · left; exact ⟨a', a, b, by rw [beq_eq_false_iff_ne]; omega⟩
theorem tests_bad {k : Nat} {p : Int} (h : (0 < k ∧ p = 0) ∨ (k = 9 ∧ 1 < p)) :
    (decide (0 < k) = true ∧ decide (0 < (k : Int)) = true ∧ (p == 0) = true) ∨ (decide (0 < k) = true ∧ decide (0 < (k : Int)) = true ∧ (p == 0) = false ∧ ((k : Int) == 9) = true ∧ decide (1 < p) = true) := by
  by_cases hp : p = 0
  · left; exact ⟨by rw [decide_eq_true_iff]; omega, by rw [decide_eq_true_iff]; omega, by rw [hp]; rfl⟩
  · right
    obtain ⟨rfl, h1⟩ : k = 9 ∧ 1 < p := by omega
    exact ⟨by decide, by decide, by rw [beq_eq_false_iff_ne]; omega, by decide, by rw [decide_eq_true_iff]; omega⟩
set_option maxRecDepth 100000 in
set_option maxHeartbeats 1000000 in
theorem number_any (A : Option Addr) (n c : Nat) (zs : List Int) (w : World) (hn : zs.length = n) (hz : Lies w A zs) (ho : Octets zs) (ln : n ≤ 4611686018427387904) :
    Calls Tryz.prog 165 #[.slice A n c] w fun e w' => e = .returned (.tuple #[.int .i64 (rdV zs), .int .i64 (rdS zs : Nat), .int .i64 (rdE zs)]) ∧ w = w' := by
  subst hn
  go_enter Tryz.func165, Tryz.ntmps165
  go_wp2
  go_loop [5, 10] (fun u i => ∃ k v : Nat, k ≤ zs.length ∧ k ≤ 9 ∧ i = .int .i64 k ∧ u = .int .u64 v ∧ Hid (v < 128 ^ k) ∧ Hid (rdN 0 0 zs = rdN k v (zs.drop k))) (fun _ i => zs.length - (intOf i).toNat)
  case atStart => exact ⟨0, 0, by omega, by omega, rfl, rfl, hide (by simp), hide rfl⟩
  case round =>
    obtain ⟨k, v, hk, hk9, rfl, rfl, hv, hs⟩ := hrel
    by_cases hlt : k < zs.length
    · obtain ⟨b1, o1, rfl, _, hc1⟩ := hz.at_ (k := k) hlt
      have o := ho.ix k
      have hd := drop_ix hlt
      have HZ := hide hz; have HO := hide ho
      clear hz ho
      generalize ix zs k = p at *
      obtain ⟨p0, p1⟩ := o
      by_cases hf : (0 < k ∧ p = 0) ∨ (k = 9 ∧ 1 < p)
      · have hr := hide (rd_none (show rdN 0 0 zs = (0, 0, 4) by rw [hs.out, hd, rdN_form hf]))
        have ht := tests_bad hf
        clear hf hs hv hd
        rcases ht with ⟨t0, t1, t2⟩ | ⟨t0, t1, t2, t3, t4⟩
        all_goals
          go_wp2
          go_ret3
          exact ⟨ret_three hr.out.1.symm hr.out.2.1.symm hr.out.2.2.symm, rfl⟩
      · obtain ⟨q, hq⟩ : ∃ q, (p % 128).toNat = q := ⟨_, rfl⟩
        have hst := step_lt hk9 hv.out p0 p1 hf
        rw [hq] at hst
        obtain ⟨U, hU⟩ : ∃ U, v + q * 128 ^ k = U := ⟨_, rfl⟩
        rw [hU] at hst
        have hor : bits .or .u64 (v : Int) (IntKind.u64.wrap ((q : Int) * 2 ^ (k * 7))) = (U : Int) := by rw [or_step hv.out (by rw [hU]; exact hst.1), hU]
        have hUl := hide hst.1
        have hUs := hide hst.2
        have hq' := hide hq
        have ht := tests hk9 hf
        by_cases hl : p < 128
        · have hr := hide (rd_of (show rdN 0 0 zs = (U, k + 1, 0) by rw [hs.out, hd, rdN_last hf hl, hq, hU]))
          clear hf hs hv hd hU hst hq
          rcases ht with ⟨t0, t1, t3⟩ | ⟨t0, t1, t2, t3⟩ | ⟨t0, t1, t2, t3, t4⟩
          all_goals
            go_wp2_with (first
              | (go_at_call 88; (with_reducible refine (low7_int _ p0 p1 hq'.out).mono ?_); rintro e w3 ⟨rfl, rfl⟩)
              | (go_at_call 173; (with_reducible refine (zag_any U _ hUl.out).mono ?_); rintro e w3 ⟨rfl, rfl⟩))
            go_ret3
            exact ⟨ret_three hr.out.1.symm (by rw [hr.out.2.1]; rfl) hr.out.2.2.symm, rfl⟩
        · have hr := hide (show rdN 0 0 zs = rdN (k + 1) U (zs.drop (k + 1)) by rw [hs.out, hd, rdN_more hf hl, hq, hU])
          have hk8 : k < 9 := by omega
          clear hf hs hv hd hU hst hq
          rcases ht with ⟨t0, t1, t3⟩ | ⟨t0, t1, t2, t3⟩ | ⟨t0, t1, t2, t3, t4⟩
          all_goals
            go_wp2_with (first
              | (go_at_call 88; (with_reducible refine (low7_int _ p0 p1 hq'.out).mono ?_); rintro e w3 ⟨rfl, rfl⟩))
            go_round
            case rel => exact ⟨k + 1, U, by omega, by omega, by go_num, rfl, hide (hUs.out hk8), hr⟩
            case measure => simp [intOf]; omega
    · obtain rfl : k = zs.length := by omega
      have hr := hide (rd_none (show rdN 0 0 zs = (0, 0, 3) by rw [hs.out, List.drop_length]; rfl))
      clear hs hv
      go_wp2
      go_ret3
      exact ⟨ret_three hr.out.1.symm hr.out.2.1.symm hr.out.2.2.symm, rfl⟩
end Go.Proofs.YtkmcnhjfnjikaaaGreatDoor
/- A reader behind a pointer: its bytes, its place, its error; what becomes of it when other memory is written; what each call comes to, in plain words. No condition. -/
namespace Go.Proofs.YtkmcnhjfnjikaaaGreatDoor
open Go.RowKit
/-- Bytes that lie below block B. -/
def Deep (w : World) (B : Nat) (A : Option Addr) (zs : List Int) : Prop :=
  0 < zs.length → ∃ b off, A = some ⟨b, off, none⟩ ∧ b < B ∧ ∀ k, k < zs.length → w.cell? ⟨b, off + k, none⟩ = some (.int .u8 (ix zs k))
theorem Deep.keep {w w' : World} {B : Nat} {A : Option Addr} {zs : List Int} (h : Deep w B A zs) (hb : ∀ k, k < B → w'.heap[k]? = w.heap[k]?) : Deep w' B A zs := fun hn => by
  obtain ⟨b, off, e, hlt, hc⟩ := h hn
  exact ⟨b, off, e, hlt, fun k hk => (World.cell?_of_block (w := w) (a := ⟨b, off + k, none⟩) (hb b hlt)).trans (hc k hk)⟩
theorem Deep.lies {w : World} {B : Nat} {A : Option Addr} {zs : List Int} (h : Deep w B A zs) (hB : B ≤ w.heap.size) : Lies w A zs := fun hn => by
  obtain ⟨b, off, e, hlt, hc⟩ := h hn
  exact ⟨b, off, e, by omega, hc⟩
theorem Lies.deep {w : World} {A : Option Addr} {zs : List Int} (h : Lies w A zs) : Deep w w.heap.size A zs := h


/-- The reader at block g (of type t): bytes zs that lie below block B, place i, error e. -/
structure Rdr (t : TypeId) (w : World) (B g : Nat) (zs : List Int) (i : Nat) (e : Int) : Prop where
  row : ∃ A n c, Row w g t #[.slice A n c, .int .i64 i, .int .i64 e] ∧ zs.length = n ∧ n ≤ c ∧ n ≤ 4611686018427387904 ∧ Deep w B A zs
  oct : Octets zs
  here : i ≤ zs.length
  low : B ≤ g
  err : 0 ≤ e ∧ e ≤ 9
section
variable {t : TypeId} {w w' : World} {B g i : Nat} {zs : List Int} {e : Int}
theorem Rdr.keep (h : Rdr t w B g zs i e) (hb : ∀ k, k < B → w'.heap[k]? = w.heap[k]?) (hg : w'.heap[g]? = w.heap[g]?) : Rdr t w' B g zs i e := by
  obtain ⟨⟨A, n, c, hr, h1, h2, h3, hd⟩, ho, hi, hl, he⟩ := h
  exact ⟨⟨A, n, c, hg.trans hr, h1, h2, h3, hd.keep hb⟩, ho, hi, hl, he⟩
theorem Rdr.lt (h : Rdr t w B g zs i e) : g < w.heap.size := by
  obtain ⟨⟨A, n, c, hr, _⟩, _⟩ := h
  exact hr.lt
theorem Rdr.drewN (h : Rdr t w B g zs i e) (n : Nat) : Rdr t (w.drewN n) B g zs i e := h.keep (fun _ _ => rfl) rfl
theorem Rdr.below (h : Rdr t w B g zs i e) (hb : Below w.heap.size w w') : Rdr t w' B g zs i e :=
  have hl := h.lt
  have hB := h.low
  h.keep (fun k hk => hb.block k (by omega)) (hb.block g hl)
theorem Rdr.alloc (h : Rdr t w B g zs i e) (o : Obj) : Rdr t (w.alloc o) B g zs i e := h.below ((Below.refl _ _).alloc (Nat.le_refl _) o)
theorem Rdr.far {k : Nat} (h : Rdr t w B g zs i e) (hg : w.grownBy w' (some k)) (hk : k ≠ g) (hB : B ≤ k) : Rdr t w' B g zs i e :=
  have hl := h.lt
  have hBg := h.low
  h.keep (fun j hj => hg.block j (by omega) (fun e => by injection e; omega)) (hg.block g hl (fun e => by injection e; omega))
theorem Rdr.place (h : Rdr t w B g zs i e) {j : Nat} (hj : j ≤ zs.length) : Rdr t (w.setCell ⟨g, 1, none⟩ (.int .i64 j)) B g zs j e := by
  obtain ⟨⟨A, n, c, hr, h1, h2, h3, hd⟩, ho, hi, hl, he⟩ := h
  exact ⟨⟨A, n, c, hr.put 1 _, h1, h2, h3, hd.keep fun k hk => Below.heap_setCell _ _ _ _ (by show k ≠ g; omega)⟩, ho, hj, hl, he⟩
theorem Rdr.wrong (h : Rdr t w B g zs i e) {y : Int} (hy : 0 ≤ y ∧ y ≤ 9) : Rdr t (w.setCell ⟨g, 2, none⟩ (.int .i64 y)) B g zs i y := by
  obtain ⟨⟨A, n, c, hr, h1, h2, h3, hd⟩, ho, hi, hl, he⟩ := h
  exact ⟨⟨A, n, c, hr.put 2 _, h1, h2, h3, hd.keep fun k hk => Below.heap_setCell _ _ _ _ (by show k ≠ g; omega)⟩, ho, hi, hl, hy⟩
/-- What a walk needs of a reader. -/
theorem Rdr.cells (h : Rdr t w B g zs i e) : ∃ A c, w.cell? ⟨g, 0, none⟩ = some (.slice A zs.length c) ∧ w.cell? ⟨g, 1, none⟩ = some (.int .i64 i) ∧ w.cell? ⟨g, 2, none⟩ = some (.int .i64 e) ∧
    w.frozen? ⟨g, 1, none⟩ = false ∧ w.frozen? ⟨g, 2, none⟩ = false ∧ zs.length ≤ c ∧ zs.length ≤ 4611686018427387904 ∧ Lies w A zs := by
  have hl := h.lt
  obtain ⟨⟨A, n, c, hr, rfl, h2, h3, hd⟩, ho, hi, hlo, he⟩ := h
  exact ⟨A, c, hr.cell 0, hr.cell 1, hr.cell 2, hr.free 1, hr.free 2, h2, h3, hd.lies (by omega)⟩
/-- The same, and where the bytes lie. -/
theorem Rdr.deeps (h : Rdr t w B g zs i e) : ∃ A c, w.cell? ⟨g, 0, none⟩ = some (.slice A zs.length c) ∧ w.cell? ⟨g, 1, none⟩ = some (.int .i64 i) ∧ w.cell? ⟨g, 2, none⟩ = some (.int .i64 e) ∧
    w.frozen? ⟨g, 1, none⟩ = false ∧ w.frozen? ⟨g, 2, none⟩ = false ∧ zs.length ≤ c ∧ zs.length ≤ 4611686018427387904 ∧ Deep w B A zs := by
  obtain ⟨⟨A, n, c, hr, rfl, h2, h3, hd⟩, ho, hi, hlo, he⟩ := h
  exact ⟨A, c, hr.cell 0, hr.cell 1, hr.cell 2, hr.free 1, hr.free 2, h2, h3, hd⟩
theorem Deep.far {A : Option Addr} {ys : List Int} (h : Deep w B A ys) (hg : w.grownBy w' (some g)) (hB : B ≤ g) (hl : g < w.heap.size) : Lies w' A ys :=
  (h.keep (w' := w') fun j hj => hg.block j (by omega) (fun e => by injection e; omega)).lies (by have := hg.size; omega)
end

/-! ### What each call comes to: the error, the answer, the place -/
def rNumE (zs : List Int) (i : Nat) (e : Int) : Int := if e = 0 then rdE (zs.drop i) else e
def rNumV (zs : List Int) (i : Nat) (e : Int) : Int := if rNumE zs i e = 0 then rdV (zs.drop i) else 0
def rNumA (zs : List Int) (i : Nat) (e : Int) : Nat := if rNumE zs i e = 0 then i + rdS (zs.drop i) else i
def cntE (ys : List Int) (m : Int) : Int := if rdE ys = 0 then (if rdV ys < 0 ∨ m < rdV ys then 2 else 0) else rdE ys
def cntV (ys : List Int) (m : Int) : Int := if cntE ys m = 0 then rdV ys else 0
def cntS (ys : List Int) (m : Int) : Nat := if cntE ys m = 0 then rdS ys else 0
/-- The first of two errors. -/
def erst (e y : Int) : Int := if e = 0 then y else e
theorem erst_zero (y : Int) : erst 0 y = y := by unfold erst; rw [if_pos rfl]
theorem erst_pos {e : Int} (h : e ≠ 0) (y : Int) : erst e y = e := by unfold erst; rw [if_neg h]
def rCntE (zs : List Int) (i : Nat) (e m : Int) : Int := if e = 0 then cntE (zs.drop i) m else e
def rCntV (zs : List Int) (i : Nat) (e m : Int) : Int := if rCntE zs i e m = 0 then rdV (zs.drop i) else 0
def rCntA (zs : List Int) (i : Nat) (e m : Int) : Nat := if rCntE zs i e m = 0 then i + rdS (zs.drop i) else i
def txtE (ys : List Int) (m : Int) : Int := if cntE ys m = 0 then (if (ys.length : Int) - (rdS ys : Nat) < rdV ys then 3 else 0) else cntE ys m
def rTxtE (zs : List Int) (i : Nat) (e m : Int) : Int := if e = 0 then txtE (zs.drop i) m else e
def rTxtV (zs : List Int) (i : Nat) (e m : Int) : List Int := if rTxtE zs i e m = 0 then ((zs.drop i).drop (rdS (zs.drop i))).take (rdV (zs.drop i)).toNat else []
def rTxtA (zs : List Int) (i : Nat) (e m : Int) : Nat := if rTxtE zs i e m = 0 then i + rdS (zs.drop i) + (rdV (zs.drop i)).toNat else i
def rFlgE (zs : List Int) (i : Nat) (e : Int) : Int := if e = 0 then (if i < zs.length then (if 1 < ix zs i then 4 else 0) else 3) else e
def rFlgV (zs : List Int) (i : Nat) (e : Int) : Bool := decide (rFlgE zs i e = 0 ∧ ix zs i = 1)
def rFlgA (zs : List Int) (i : Nat) (e : Int) : Nat := if rFlgE zs i e = 0 then i + 1 else i
def rEndE (zs : List Int) (i : Nat) (e : Int) : Int := if e = 0 then (if i < zs.length then 5 else 0) else e
def rFailE (e : Int) : Int := if e = 0 then 4 else e
/-- The bytes as a string. -/
def strOf (zs : List Int) : ByteArray := ⟨(zs.map fun z => UInt8.ofNat z.toNat).toArray⟩
theorem str_strL (s : ByteArray) : strOf (strL s) = s := by
  obtain ⟨l⟩ := s
  unfold strOf strL
  congr 1
  rw [List.map_map]
  apply Array.ext'
  rw [List.toList_toArray]
  have : ∀ bs : List UInt8, List.map ((fun z : Int => UInt8.ofNat z.toNat) ∘ fun b => (b.toNat : Int)) bs = bs := by
    intro bs
    induction bs with
    | nil => rfl
    | cons b bs ih => rw [List.map_cons, ih]; congr 1; simp
  exact this l.toList
theorem octets_drop {zs : List Int} (h : Octets zs) (k : Nat) : Octets (zs.drop k) := fun z hz => h z (List.mem_of_mem_drop hz)
theorem octets_take {zs : List Int} (h : Octets zs) (k : Nat) : Octets (zs.take k) := fun z hz => h z (List.mem_of_mem_take hz)
theorem cntE_bounds {ys : List Int} (ho : Octets ys) (m : Int) : 0 ≤ cntE ys m ∧ cntE ys m ≤ 4 := by
  have := rd_bounds ho
  unfold cntE; split
  · split <;> omega
  · omega
theorem txtE_bounds {ys : List Int} (ho : Octets ys) (m : Int) : 0 ≤ txtE ys m ∧ txtE ys m ≤ 4 := by
  have := cntE_bounds ho m
  unfold txtE; split
  · split <;> omega
  · omega
end Go.Proofs.YtkmcnhjfnjikaaaGreatDoor
/- What the methods of package pack's reader come to. Conditions: the reader lies in memory as it must. -/
namespace Go.Proofs.YtkmcnhjfnjikaaaGreatDoor
open Go.RowKit
set_option maxRecDepth 100000 in
set_option maxHeartbeats 1000000 in
theorem count_any (A : Option Addr) (n c : Nat) (zs : List Int) (m : Int) (w : World) (hn : zs.length = n) (hz : Lies w A zs) (ho : Octets zs) (ln : n ≤ 4611686018427387904) :
    Calls Tryz.prog 152 #[.slice A n c, .int .i64 m] w fun e w' =>
      e = .returned (.tuple #[.int .i64 (cntV zs m), .int .i64 (cntS zs m : Nat), .int .i64 (cntE zs m)]) ∧ w = w' := by
  have hn' := hide hn
  have hb := rd_bounds ho
  by_cases h0 : rdE zs = 0
  · have t0 : (rdE zs == 0) = true := by rw [h0]; rfl
    by_cases h1 : rdV zs < 0 ∨ m < rdV zs
    · have e : cntE zs m = 2 := by unfold cntE; rw [if_pos h0, if_pos h1]
      have he := hide (ret_three (k := .i64) (l := .i64) (m := .i64) (show (0 : Int) = cntV zs m by unfold cntV; rw [e]; rfl) (show (0 : Int) = ((cntS zs m : Nat) : Int) by unfold cntS; rw [e]; rfl) e.symm)
      have t1 : decide (rdV zs < 0) = true ∨ (decide (rdV zs < 0) = false ∧ decide (m < rdV zs) = true) := by
        by_cases h : rdV zs < 0
        · left; exact decide_eq_true h
        · right; exact ⟨decide_eq_false h, decide_eq_true (by omega)⟩
      clear e h0 h1 hb hn
      rcases t1 with t1 | ⟨t1, t2⟩
      all_goals
        go_enter Tryz.func152, Tryz.ntmps152
        go_wp2_with (go_at_call 165; (with_reducible refine (number_any A n c zs w hn'.out hz ho ln).mono ?_); rintro e w1 ⟨rfl, rfl⟩)
        go_ret3
        exact ⟨he.out, rfl⟩
    · have e : cntE zs m = 0 := by unfold cntE; rw [if_pos h0, if_neg h1]
      have he := hide (ret_three (k := .i64) (l := .i64) (m := .i64) (show rdV zs = cntV zs m by unfold cntV; rw [e]; rfl) (show ((rdS zs : Nat) : Int) = ((cntS zs m : Nat) : Int) by unfold cntS; rw [e]; rfl) (show rdE zs = cntE zs m by rw [e, h0]))
      have t1 : decide (rdV zs < 0) = false := decide_eq_false (by omega)
      have t2 : decide (m < rdV zs) = false := decide_eq_false (by omega)
      clear e h0 h1 hb hn
      go_enter Tryz.func152, Tryz.ntmps152
      go_wp2_with (go_at_call 165; (with_reducible refine (number_any A n c zs w hn'.out hz ho ln).mono ?_); rintro e w1 ⟨rfl, rfl⟩)
      go_ret3
      exact ⟨he.out, rfl⟩
  · have t0 : (rdE zs == 0) = false := by rw [beq_eq_false_iff_ne]; exact h0
    have e : cntE zs m = rdE zs := by unfold cntE; rw [if_neg h0]
    have hv := hb.2.2.2.2.2.2 h0
    have he := hide (ret_three (k := .i64) (l := .i64) (m := .i64) (show rdV zs = cntV zs m by unfold cntV; rw [e, if_neg h0, hv.1]) (show ((rdS zs : Nat) : Int) = ((cntS zs m : Nat) : Int) by unfold cntS; rw [e, if_neg h0, hv.2]) e.symm)
    clear e h0 hb hn hv
    go_enter Tryz.func152, Tryz.ntmps152
    go_wp2_with (go_at_call 165; (with_reducible refine (number_any A n c zs w hn'.out hz ho ln).mono ?_); rintro e w1 ⟨rfl, rfl⟩)
    go_ret3
    exact ⟨he.out, rfl⟩
section
variable {w : World} {B g i : Nat} {zs : List Int} {e : Int}
set_option maxHeartbeats 1000000 in
theorem fail_any (h : Rdr 193 w B g zs i e) (y : Int) (hy : 0 ≤ y ∧ y ≤ 9) :
    Calls Tryz.prog 154 #[.pointer (some ⟨g, 0, none⟩), .int .i64 y] w fun x w' => x = .returned (.tuple #[]) ∧ Rdr 193 w' B g zs i (erst e y) ∧ w.grownBy w' (some g) := by
  obtain ⟨A, c, c0, c1, c2, f1, f2, _, _, _⟩ := h.cells
  by_cases he : e = 0
  · have t0 : (e == 0) = true := by rw [he]; rfl
    have h' := hide (h.wrong hy)
    rw [he, erst_zero]
    clear he h
    go_enter Tryz.func154, Tryz.ntmps154
    go_wp2
    go_end0
    exact ⟨rfl, h'.out, grown_put (grown_refl w _) _ _⟩
  · have t0 : (e == 0) = false := by rw [beq_eq_false_iff_ne]; exact he
    have h' := hide h
    rw [erst_pos he]
    clear he h
    go_enter Tryz.func154, Tryz.ntmps154
    go_wp2
    go_end0
    exact ⟨rfl, h'.out, grown_refl w _⟩
set_option maxHeartbeats 1000000 in
theorem passed_yes (h : Rdr 193 w B g zs i 0) (s : Nat) (hs : i + s ≤ zs.length) :
    Calls Tryz.prog 153 #[.pointer (some ⟨g, 0, none⟩), .int .i64 s, .int .i64 0] w fun x w' => x = .returned (.bool true) ∧ Rdr 193 w' B g zs (i + s) 0 ∧ w.grownBy w' (some g) := by
  have ha := fail_any h 0 (by omega)
  rw [erst_zero] at ha
  have hA := hide ha
  have hl : zs.length ≤ 4611686018427387904 := by obtain ⟨A, c, _, _, _, _, _, h1, h2, _⟩ := h.cells; omega
  clear ha h
  go_enter Tryz.func153, Tryz.ntmps153
  go_wp2_with (go_at_call 154; (with_reducible refine hA.out.mono ?_); rintro x w1 ⟨rfl, h1, hg1⟩; obtain ⟨A, c, c0, c1, c2, f1, f2, _, _, _⟩ := h1.cells; have h1' := hide (h1.place (j := i + s) hs); have hg' := hide hg1; clear h1 hg1)
  go_ret
  exact ⟨rfl, h1'.out, grown_put hg'.out _ _⟩
set_option maxHeartbeats 1000000 in
theorem passed_no (h : Rdr 193 w B g zs i e) (s y : Int) (hy : 0 ≤ y ∧ y ≤ 9) (hn : ¬ (erst e y) = 0) :
    Calls Tryz.prog 153 #[.pointer (some ⟨g, 0, none⟩), .int .i64 s, .int .i64 y] w fun x w' => x = .returned (.bool false) ∧ Rdr 193 w' B g zs i (erst e y) ∧ w.grownBy w' (some g) := by
  have hA := hide (fail_any h y hy)
  have t0 : ((erst e y) == 0) = false := by rw [beq_eq_false_iff_ne]; exact hn
  generalize (erst e y) = z at *
  clear h hn
  go_enter Tryz.func153, Tryz.ntmps153
  go_wp2_with (go_at_call 154; (with_reducible refine hA.out.mono ?_); rintro x w1 ⟨rfl, h1, hg1⟩; obtain ⟨A, c, c0, c1, c2, f1, f2, _, _, _⟩ := h1.cells; have h1' := hide h1; have hg' := hide hg1; clear h1 hg1)
  go_ret
  exact ⟨rfl, h1'.out, hg'.out⟩
theorem rest_number {A : Option Addr} {c i : Nat} {zs : List Int} {w : World} (hz : Lies w A zs) (ho : Octets zs) (lc : zs.length ≤ c) (l : zs.length ≤ 4611686018427387904) (q : Nat) :
    Calls Tryz.prog 165 #[.slice (partA A c i) (zs.length - i) (c - i)] (w.drewN q) fun x w' =>
      x = .returned (.tuple #[.int .i64 (rdV (zs.drop i)), .int .i64 (rdS (zs.drop i) : Nat), .int .i64 (rdE (zs.drop i))]) ∧ ∃ m, w' = w.drewN m :=
  (number_any _ _ (c - i) (zs.drop i) (w.drewN q) (by rw [List.length_drop]) ((hz.rest lc i).drewN q) (octets_drop ho i) (by omega)).mono fun _ _ ⟨he, hw⟩ => ⟨he, q, hw.symm⟩
theorem rest_count {A : Option Addr} {c i : Nat} {zs : List Int} {m : Int} {w : World} (hz : Lies w A zs) (ho : Octets zs) (lc : zs.length ≤ c) (l : zs.length ≤ 4611686018427387904) (q : Nat) :
    Calls Tryz.prog 152 #[.slice (partA A c i) (zs.length - i) (c - i), .int .i64 m] (w.drewN q) fun x w' =>
      x = .returned (.tuple #[.int .i64 (cntV (zs.drop i) m), .int .i64 (cntS (zs.drop i) m : Nat), .int .i64 (cntE (zs.drop i) m)]) ∧ ∃ k, w' = w.drewN k :=
  (count_any _ _ (c - i) (zs.drop i) m (w.drewN q) (by rw [List.length_drop]) ((hz.rest lc i).drewN q) (octets_drop ho i) (by omega)).mono fun _ _ ⟨he, hw⟩ => ⟨he, q, hw.symm⟩
set_option maxRecDepth 100000 in
set_option maxHeartbeats 1000000 in
theorem pcount_any (h : Rdr 193 w B g zs i e) (m : Int) :
    Calls Tryz.prog 129 #[.pointer (some ⟨g, 0, none⟩), .int .i64 m] w fun x w' =>
      x = .returned (.int .i64 (rCntV zs i e m)) ∧ Rdr 193 w' B g zs (rCntA zs i e m) (rCntE zs i e m) ∧ w.grownBy w' (some g) := by
  obtain ⟨A, c, c0, c1, c2, f1, f2, lc, l, hz⟩ := h.cells
  have hb := rd_bounds (octets_drop h.oct i)
  have hcb := cntE_bounds (octets_drop h.oct i) m
  rw [List.length_drop] at hb
  have hi := h.here
  have hq := hide fun q => rest_count (i := i) (m := m) hz h.oct lc l q
  have lic : i ≤ c := by omega
  have li0 : (i : Int) ≤ (c : Int) := by omega
  have p1 : (if c = i then A else Option.map (fun x => x.add i) A) = partA A c i := rfl
  have H := hide h
  clear hz h
  by_cases h0 : rCntE zs i e m = 0
  · have ev : rCntV zs i e m = rdV (zs.drop i) := by unfold rCntV; rw [if_pos h0]
    have ea : rCntA zs i e m = i + rdS (zs.drop i) := by unfold rCntA; rw [if_pos h0]
    have h1 : e = 0 ∧ cntE (zs.drop i) m = 0 := by
      unfold rCntE at h0
      by_cases he : e = 0
      · rw [if_pos he] at h0; exact ⟨he, h0⟩
      · rw [if_neg he] at h0; exact absurd h0 he
    obtain ⟨rfl, h2⟩ := h1
    have h3 : cntV (zs.drop i) m = rdV (zs.drop i) := by unfold cntV; rw [if_pos h2]
    have h4 : cntS (zs.drop i) m = rdS (zs.drop i) := by unfold cntS; rw [if_pos h2]
    rw [h2, h3, h4] at hq
    rw [ev, ea, h0]
    have hs : i + rdS (zs.drop i) ≤ zs.length := by omega
    have hp := hide fun q => passed_yes (H.out.drewN q) _ hs
    clear ev ea h0 h2 h3 h4 hb hcb H
    generalize rdV (zs.drop i) = V at *
    generalize rdS (zs.drop i) = S at *
    go_enter Tryz.func129, Tryz.ntmps129
    go_wp2
    go_quiet ((go_at_call 152; exact hq.out _))
    go_wp2_with (go_at_call 153; (with_reducible refine (hp.out _).mono ?_); rintro x w1 ⟨rfl, h1, hg1⟩; have h1' := hide h1; have hg' := hide hg1; clear h1 hg1)
    go_ret
    exact ⟨rfl, h1'.out, grown_trans (grown_drewN (grown_refl w _) _) hg'.out⟩
  · have ev : rCntV zs i e m = 0 := by unfold rCntV; rw [if_neg h0]
    have ea : rCntA zs i e m = i := by unfold rCntA; rw [if_neg h0]
    have ee : rCntE zs i e m = erst e (cntE (zs.drop i) m) := by unfold rCntE erst; rfl
    rw [ee] at h0
    rw [ev, ea, ee]
    have hp := hide fun q (s : Int) => passed_no (H.out.drewN q) s (cntE (zs.drop i) m) (by omega) h0
    clear ev ea h0 ee hb hcb H
    generalize cntV (zs.drop i) m = V at *
    generalize cntS (zs.drop i) m = S at *
    generalize cntE (zs.drop i) m = E at *
    generalize erst e E = E' at *
    go_enter Tryz.func129, Tryz.ntmps129
    go_wp2
    go_quiet ((go_at_call 152; exact hq.out _))
    go_wp2_with (go_at_call 153; (with_reducible refine (hp.out _ _).mono ?_); rintro x w1 ⟨rfl, h1, hg1⟩; have h1' := hide h1; have hg' := hide hg1; clear h1 hg1)
    go_ret
    exact ⟨rfl, h1'.out, grown_trans (grown_drewN (grown_refl w _) _) hg'.out⟩
theorem conv_any {A : Option Addr} {n c : Nat} {zs : List Int} {w : World} (hn : zs.length = n) (hz : Lies w A zs) :
    (convert 31 9 (.slice A n c)).run Tryz.prog w = .ok (.string (strOf zs)) w := by
  subst hn
  rcases Nat.eq_zero_or_pos zs.length with h0 | h0
  · have : zs = [] := List.eq_nil_of_length_eq_zero h0
    subst this
    rcases A with _ | ad
    · exact run_convert_bytes_nil w 31 5 Tryz.underlying31 Tryz.underlying5 _ _ 9 Tryz.underlying9
    · rw [run_convert_bytes_string w 31 9 5 _ _ c Tryz.underlying31 Tryz.underlying5 Tryz.underlying9]
      have hl := run_loadCells_list (P := Tryz.prog) w ad [] (fun j v hj => by simp at hj)
      exact run_bytesToString w ad 0 c [] hl
  · obtain ⟨b, off, rfl, _, hc⟩ := hz h0
    exact run_convert_bytes_arg w 31 5 Tryz.underlying31 Tryz.underlying5 b off zs.length c zs rfl hc 9 Tryz.underlying9
end
end Go.Proofs.YtkmcnhjfnjikaaaGreatDoor
/- What Text, Flag, End and the small methods of package pack's reader come to. Conditions: the reader lies in memory as it must. -/
namespace Go.Proofs.YtkmcnhjfnjikaaaGreatDoor
open Go.RowKit
section
variable {w : World} {B g i : Nat} {zs : List Int} {e : Int}
theorem passed_sum (h : Rdr 193 w B g zs i 0) (s : Int) (S : Nat) (hS : s = S) (hs : i + S ≤ zs.length) :
    Calls Tryz.prog 153 #[.pointer (some ⟨g, 0, none⟩), .int .i64 s, .int .i64 0] w fun x w' => x = .returned (.bool true) ∧ Rdr 193 w' B g zs (i + S) 0 ∧ w.grownBy w' (some g) := by
  subst hS; exact passed_yes h S hs
set_option maxRecDepth 100000 in
set_option maxHeartbeats 1000000 in
theorem pend_any (h : Rdr 193 w B g zs i e) :
    Calls Tryz.prog 130 #[.pointer (some ⟨g, 0, none⟩)] w fun x w' => x = .returned (.int .i64 (rEndE zs i e)) ∧ Rdr 193 w' B g zs i (rEndE zs i e) ∧ w.grownBy w' (some g) := by
  obtain ⟨A, c, c0, c1, c2, f1, f2, lc, l, hz⟩ := h.cells
  by_cases hi : i < zs.length
  · have ee : rEndE zs i e = erst e 5 := by unfold rEndE erst; rw [if_pos hi]
    rw [ee]
    have hA := hide fun q => fail_any (h.drewN q) 5 (by omega)
    have t1 : decide (i < zs.length) = true := decide_eq_true hi
    generalize erst e 5 = E' at *
    clear h hz ee
    go_enter Tryz.func130, Tryz.ntmps130
    go_wp2
    go_quiet (fail)
    go_wp2_with (go_at_call 154; (with_reducible refine (hA.out _).mono ?_); rintro x w1 ⟨rfl, h1, hg1⟩; obtain ⟨A', c', c0', c1', c2', f1', f2', _, _, _⟩ := h1.cells; have h1' := hide h1; have hg' := hide hg1; clear h1 hg1)
    go_ret
    exact ⟨rfl, h1'.out, grown_trans (grown_drewN (grown_refl w _) _) hg'.out⟩
  · have ee : rEndE zs i e = e := by unfold rEndE; rw [if_neg hi]; split <;> omega
    rw [ee]
    have H := hide h
    have t1 : decide (i < zs.length) = false := decide_eq_false hi
    clear h hz ee
    go_enter Tryz.func130, Tryz.ntmps130
    go_wp2
    go_quiet (fail)
    go_wp2
    go_ret
    exact ⟨rfl, H.out.drewN _, grown_drewN (grown_refl w _) _⟩
theorem get1_quiet {A : Option Addr} {c : Nat} (hz : Lies w A zs) (ho : Octets zs) (l : zs.length ≤ 4611686018427387904) (hi : i ≤ zs.length) (q : Nat) :
    Calls Tryz.prog 151 #[.slice A zs.length c, .int .i64 i, .int .i64 1] (w.drewN q) fun x w' => x = .returned (.tuple #[.int .u64 (get1V zs i), .int .i64 (get1E zs i)]) ∧ ∃ m, w' = w.drewN m :=
  (get1_any A zs.length c zs i (w.drewN q) rfl (hz.drewN q) ho l hi).mono fun _ _ ⟨he, hw⟩ => ⟨he, q, hw.symm⟩
end
/-- A slice of bytes of the call's own, or nil. -/
theorem town_len {w : World} {base n : Nat} {A : Option Addr} {m c : Nat} {xs : List Value} (h : w.ownsRow base 5 1 (.slice A m c) n xs) : m = n ∧ n ≤ c := by
  rcases h.2 with ⟨hv, hx⟩ | ⟨g, cap, cur, hv, _, _, hnc, _⟩
  · injection hv with _ h2 h3
    subst h2 h3
    have := h.1
    rw [hx] at this
    simp at this
    omega
  · injection hv with _ h2 h3
    subst h2 h3
    exact ⟨rfl, hnc⟩
/-- A slice of these bytes, in new memory or nowhere. -/
def ClonedT (w : World) (n : Nat) (zs : List Int) (e : Ending) (w' : World) : Prop := ∃ A' c', e = .returned (.slice A' n c') ∧ n ≤ c' ∧ Lies w' A' zs ∧ Below w.heap.size w w'
set_option maxHeartbeats 1000000 in
theorem tclone_any (A : Option Addr) (n c : Nat) (zs : List Int) (w : World) (hn : zs.length = n) (hz : Lies w A zs) (hc : A = none → c = 0) (ln : n ≤ 140737488355328) :
    Calls Tryz.prog 69 #[.slice A n c] w (ClonedT w n zs) := by
  subst hn
  have hnil : ∀ (a : Option Addr) (k c : Nat) (w : World), (binOp .eql 31 (.slice a k c) (.slice none 0 0)).run Tryz.prog w = .ok (.bool a.isNone) w := fun a k c w => Lib.run_eql_slice_nil w 31 5 a k c 0 0 Tryz.underlying31
  rcases A with _ | ad
  · have h0 := hz.nil_ rfl
    have hz0 : zs = [] := List.eq_nil_of_length_eq_zero h0
    subst hz0
    obtain rfl := hc rfl
    go_enter Tryz.func69, Tryz.ntmps69
    go_wp2
    go_ret
    exact ⟨none, 0, rfl, Nat.le_refl _, Lies.none_, Below.refl _ _⟩
  · obtain ⟨i0, hi, hz0, hz1, hz2⟩ := info_parts Tryz.info5
    have hown0 := World.ownsRow_lit (base := w.heap.size) (e := 5) (size := 1) w #[] 0 (Nat.le_refl _) (by unfold maxLen; omega) rfl
    have hz' := hide (hz.alloc (.cells #[] 5))
    clear hc
    go_enter Tryz.func69, Tryz.ntmps69
    go_wp2_with (first
      | (at_builtin; refine wpList_append_lies rfl (.tmp 5) (.tmp 6) 31 rfl w.heap.size 5 i0 _ Tryz.underlying31 hi hz0 hz1 hz2 rfl _ 0 [] rfl hown0 (some ad) zs.length c zs rfl rfl (by intro h; cases h) hz'.out (by omega) (by simp) ?_; intro v1 w1 hown1 hb1; simp only [Nat.zero_add, List.nil_append] at hown1; have hb1' : Below w.heap.size w w1 := ((Below.refl _ _).alloc (Nat.le_refl _) _).trans hb1; clear hb1 hown0 hz' hz))
    obtain ⟨A', c', rfl, _⟩ := own_shape hown1
    go_ret
    have := town_len hown1
    exact ⟨A', c', rfl, this.2, Lies.of_own hown1, hb1'⟩
end Go.Proofs.YtkmcnhjfnjikaaaGreatDoor
/- What Read and the methods of the document's own reader come to. Conditions: the reader lies in memory as it must. -/
namespace Go.Proofs.YtkmcnhjfnjikaaaGreatDoor
open Go.RowKit
/-- A new reader of these bytes. -/
def NewP (w : World) (zs : List Int) (e : Ending) (w' : World) : Prop :=
  ∃ g, e = .returned (.pointer (some ⟨g, 0, none⟩)) ∧ w.heap.size ≤ g ∧ Rdr 193 w' g g zs 0 0 ∧ Below w.heap.size w w'
def NewR (B : Nat) (w : World) (zs : List Int) (e : Ending) (w' : World) : Prop :=
  ∃ g, e = .returned (.pointer (some ⟨g, 0, none⟩)) ∧ w.heap.size ≤ g ∧ Rdr 156 w' B g zs 0 0 ∧ Below w.heap.size w w'
set_option maxHeartbeats 1000000 in
theorem pread_any (A : Option Addr) (n c : Nat) (zs : List Int) (w : World) (hn : zs.length = n) (hz : Lies w A zs) (ho : Octets zs) (hc : A = none → c = 0) (ln : n ≤ 140737488355328) :
    Calls Tryz.prog 128 #[.slice A n c] w (NewP w zs) := by
  have hcl := hide (tclone_any A n c zs w hn hz hc ln)
  clear hc hz
  go_enter Tryz.func128, Tryz.ntmps128
  go_wp2_with (go_at_call 69; (with_reducible refine hcl.out.mono ?_); rintro x w1 ⟨A', c', rfl, hc1, hl1, hb1⟩; have hl1' := hide hl1; have hb1' := hide hb1; clear hl1 hb1)
  go_ret
  refine ⟨w1.heap.size, rfl, hb1'.out.size, ⟨⟨A', n, c', Row.new _ _ _, hn, hc1, by omega, ?_⟩, ho, by omega, Nat.le_refl _, by omega⟩, kept_alloc hb1'.out _⟩
  exact (hl1'.out.deep).keep fun k hk => Below.heap_alloc _ _ _ hk
set_option maxHeartbeats 1000000 in
theorem rread_any (A : Option Addr) (n c B : Nat) (zs : List Int) (w : World) (hn : zs.length = n) (hz : Deep w B A zs) (hB : B ≤ w.heap.size) (ho : Octets zs) (hc : n ≤ c) (ln : n ≤ 140737488355328) :
    Calls Tryz.prog 91 #[.slice A n c] w (NewR B w zs) := by
  have hz' := hide hz
  have hn' := hide hn
  clear hz hn
  go_enter Tryz.func91, Tryz.ntmps91
  go_wp2
  go_ret
  refine ⟨w.heap.size, rfl, Nat.le_refl _, ⟨⟨A, n, c, Row.new _ _ _, hn'.out, hc, by omega, ?_⟩, ho, by omega, hB, by omega⟩, kept_alloc (kept_refl w) _⟩
  exact hz'.out.keep fun k hk => Below.heap_alloc _ _ _ (by omega)
section
variable {w : World} {B g i : Nat} {zs : List Int} {e : Int}
set_option maxHeartbeats 1000000 in
theorem rfail_any (h : Rdr 156 w B g zs i e) (y : Int) (hy : 0 ≤ y ∧ y ≤ 9) :
    Calls Tryz.prog 110 #[.pointer (some ⟨g, 0, none⟩), .int .i64 y] w fun x w' => x = .returned (.tuple #[]) ∧ Rdr 156 w' B g zs i (erst e y) ∧ w.grownBy w' (some g) := by
  obtain ⟨A, c, c0, c1, c2, f1, f2, _, _, _⟩ := h.cells
  by_cases he : e = 0
  · have t0 : (e == 0) = true := by rw [he]; rfl
    have h' := hide (h.wrong hy)
    rw [he, erst_zero]
    clear he h
    go_enter Tryz.func110, Tryz.ntmps110
    go_wp2
    go_end0
    exact ⟨rfl, h'.out, grown_put (grown_refl w _) _ _⟩
  · have t0 : (e == 0) = false := by rw [beq_eq_false_iff_ne]; exact he
    have h' := hide h
    rw [erst_pos he]
    clear he h
    go_enter Tryz.func110, Tryz.ntmps110
    go_wp2
    go_end0
    exact ⟨rfl, h'.out, grown_refl w _⟩
theorem rfail_0 (h : Rdr 156 w B g zs i 0) (y : Int) (hy : 0 ≤ y ∧ y ≤ 9) :
    Calls Tryz.prog 110 #[.pointer (some ⟨g, 0, none⟩), .int .i64 y] w fun x w' => x = .returned (.tuple #[]) ∧ Rdr 156 w' B g zs i y ∧ w.grownBy w' (some g) := by
  have h1 := rfail_any h y hy
  rwa [erst_zero] at h1
theorem Rdr.place_to {t : TypeId} (h : Rdr t w B g zs i e) (z : Int) (j : Nat) (hz : z = j) (hj : j ≤ zs.length) : Rdr t (w.setCell ⟨g, 1, none⟩ (.int .i64 z)) B g zs j e := by
  subst hz; exact h.place hj
theorem rtests {k : Nat} {p : Int} (hk : k ≤ 9) (h : ¬ ((0 < k ∧ p = 0) ∨ (k = 9 ∧ 1 < p))) :
    (((k : Int) == 9) = false ∧ decide (0 < k) = false ∧ decide (0 < (k : Int)) = false) ∨ (((k : Int) == 9) = false ∧ decide (0 < k) = true ∧ decide (0 < (k : Int)) = true ∧ (p == 0) = false) ∨
    (((k : Int) == 9) = true ∧ decide (1 < p) = false ∧ decide (0 < k) = true ∧ decide (0 < (k : Int)) = true ∧ (p == 0) = false) := by
  rcases tests hk h with ⟨a, b, c⟩ | ⟨a, b, c, d⟩ | ⟨a, b, c, d, f⟩
  · exact .inl ⟨c, a, b⟩
  · exact .inr (.inl ⟨d, a, b, c⟩)
  · exact .inr (.inr ⟨d, f, a, b, c⟩)
theorem rtests_bad {k : Nat} {p : Int} (h : (0 < k ∧ p = 0) ∨ (k = 9 ∧ 1 < p)) :
    (((k : Int) == 9) = true ∧ decide (1 < p) = true) ∨ (((k : Int) == 9) = false ∧ decide (0 < k) = true ∧ decide (0 < (k : Int)) = true ∧ (p == 0) = true) ∨
    (((k : Int) == 9) = true ∧ decide (1 < p) = false ∧ decide (0 < k) = true ∧ decide (0 < (k : Int)) = true ∧ (p == 0) = true) := by
  by_cases h9 : k = 9
  · have a : ((k : Int) == 9) = true := by subst h9; decide
    by_cases hp : 1 < p
    · exact .inl ⟨a, decide_eq_true hp⟩
    · have h0 : 0 < k ∧ p = 0 := by omega
      exact .inr (.inr ⟨a, decide_eq_false hp, decide_eq_true h0.1, decide_eq_true (by omega), by rw [h0.2]; rfl⟩)
  · have h0 : 0 < k ∧ p = 0 := by omega
    exact .inr (.inl ⟨by rw [beq_eq_false_iff_ne]; omega, decide_eq_true h0.1, decide_eq_true (by omega), by rw [h0.2]; rfl⟩)
theorem and8_int {p : Int} {q : Nat} (h0 : 0 ≤ p) (h1 : p ≤ 255) (hq : (p % 128).toNat = q) : bits .and .u8 p 127 = (q : Int) := by
  obtain ⟨P, rfl⟩ := Int.eq_ofNat_of_zero_le h0
  rw [← hq]
  refine (and8_127 P (by omega)).trans ?_
  omega
set_option maxRecDepth 100000 in
set_option maxHeartbeats 4000000 in
theorem rnum_0 (h : Rdr 156 w B g zs i 0) :
    Calls Tryz.prog 92 #[.pointer (some ⟨g, 0, none⟩)] w fun x w' =>
      x = .returned (.int .i64 (rNumV zs i 0)) ∧ Rdr 156 w' B g zs (rNumA zs i 0) (rNumE zs i 0) ∧ w.grownBy w' (some g) := by
  obtain ⟨A, c, c0, c1, c2, f1, f2, lc, l, hz⟩ := h.cells
  have ho := h.oct
  have hi := h.here
  have H := hide h
  clear h
  go_enter Tryz.func92, Tryz.ntmps92
  go_wp2
  go_loopw [3, 4] (fun u j wr => ∃ k v q : Nat, i + k ≤ zs.length ∧ k ≤ 9 ∧ j = .int .i64 k ∧ u = .int .u64 v ∧ Hid (v < 128 ^ k) ∧ Hid (rdN 0 0 (zs.drop i) = rdN k v ((zs.drop i).drop k)) ∧ wr = w.drewN q) (fun _ j _ => zs.length - (intOf j).toNat)
  case atStart => exact ⟨0, 0, 0, by omega, by omega, rfl, rfl, hide (by simp), hide rfl, rfl⟩
  case round =>
    obtain ⟨k, v, q0, hk, hk9, rfl, rfl, hv, hs, rfl⟩ := hrel
    have hsum : IntKind.i64.wrap ((i : Int) + (k : Int)) = (i : Int) + (k : Int) := IntWalk.i64_in _ ⟨by omega, by omega⟩
    have hF := hide fun q => rfail_0 (H.out.drewN q)
    by_cases hlt : i + k < zs.length
    · obtain ⟨b1, o1, rfl, _, hc1⟩ := hz.at_ (k := i + k) hlt
      have o := ho.ix (i + k)
      have hd : (zs.drop i).drop k = ix zs (i + k) :: (zs.drop i).drop (k + 1) := by
        rw [List.drop_drop, List.drop_drop, drop_ix hlt]; rfl
      have t9 : decide ((zs.length : Int) ≤ (i : Int) + (k : Int)) = false := decide_eq_false (by omega)
      have HZ := hide hz; have HO := hide ho
      clear hz ho
      generalize ix zs (i + k) = p at *
      obtain ⟨p0, p1⟩ := o
      by_cases hf : (0 < k ∧ p = 0) ∨ (k = 9 ∧ 1 < p)
      · have hr := hide (rd_none (show rdN 0 0 (zs.drop i) = (0, 0, 4) by rw [hs.out, hd, rdN_form hf]))
        have ee : rNumE zs i 0 = 4 := by unfold rNumE; rw [if_pos rfl, hr.out.2.2]
        have ev : rNumV zs i 0 = 0 := by unfold rNumV; rw [ee]; rfl
        have ea : rNumA zs i 0 = i := by unfold rNumA; rw [ee]; rfl
        have he := hide ee; have hv' := hide ev; have ha := hide ea
        have ht := rtests_bad hf
        clear hf hs hv hd ee ev ea
        rcases ht with ⟨t1, t2⟩ | ⟨t1, t2, t3, t4⟩ | ⟨t1, t2, t3, t4, t5⟩
        all_goals
          go_wp2
          go_quiet (fail)
          go_wp2
          go_quiet (fail)
          go_wp2_with (go_at_call 110; (with_reducible refine (hF.out _ 4 (by omega)).mono ?_); rintro x w1 ⟨rfl, h1, hg1⟩; have h1' := hide h1; have hg' := hide hg1; clear h1 hg1)
          go_ret
          exact ⟨ret_int hv'.out.symm, by rw [he.out, ha.out]; exact h1'.out, grown_trans (grown_drewN (grown_refl w _) _) hg'.out⟩
      · obtain ⟨q, hq⟩ : ∃ q, (p % 128).toNat = q := ⟨_, rfl⟩
        have hst := step_lt hk9 hv.out p0 p1 hf
        rw [hq] at hst
        obtain ⟨U, hU⟩ : ∃ U, v + q * 128 ^ k = U := ⟨_, rfl⟩
        rw [hU] at hst
        have han : bits .and .u8 p 127 = (q : Int) := and8_int p0 p1 hq
        have hor : bits .or .u64 (v : Int) (IntKind.u64.wrap ((q : Int) * 2 ^ (7 * k))) = (U : Int) := by rw [Nat.mul_comm 7 k, or_step hv.out (by rw [hU]; exact hst.1), hU]
        have hUl := hide hst.1
        have hUs := hide hst.2
        have hq1 : q ≤ 127 := by omega
        have ht := rtests hk9 hf
        by_cases hl : p < 128
        · have hr := hide (rd_of (show rdN 0 0 (zs.drop i) = (U, k + 1, 0) by rw [hs.out, hd, rdN_last hf hl, hq, hU]))
          have ee : rNumE zs i 0 = 0 := by unfold rNumE; rw [if_pos rfl, hr.out.2.2]
          have ev : rNumV zs i 0 = zagI U := by unfold rNumV; rw [ee, if_pos rfl, hr.out.1]
          have ea : rNumA zs i 0 = i + (k + 1) := by unfold rNumA; rw [ee, if_pos rfl, hr.out.2.1]
          have he := hide ee; have hv' := hide ev; have ha := hide ea
          have tl : decide (p < 128) = true := decide_eq_true hl
          have s1 : (i : Int) + (k : Int) + 1 ≤ 4611686018427387904 := by omega
          have hpl := hide fun q' => (H.out.drewN q').place_to ((i : Int) + (k : Int) + 1) (i + (k + 1)) (by omega) (by omega)
          clear hf hs hv hd hU hst hq hl ee ev ea
          rcases ht with ⟨t1, t2, t3⟩ | ⟨t1, t2, t3, t4⟩ | ⟨t1, t2, t3, t4, t5⟩
          all_goals
            go_wp2
            go_quiet (fail)
            go_wp2
            go_quiet (fail)
            go_wp2_with (go_at_call 111; (with_reducible refine (rzag_any U _ hUl.out).mono ?_); rintro e w3 ⟨rfl, rfl⟩)
            go_ret
            exact ⟨ret_int hv'.out.symm, by rw [he.out, ha.out]; exact hpl.out _, grown_put (grown_drewN (grown_refl w _) _) _ _⟩
        · have hr := hide (show rdN 0 0 (zs.drop i) = rdN (k + 1) U ((zs.drop i).drop (k + 1)) by rw [hs.out, hd, rdN_more hf hl, hq, hU])
          have hk8 : k < 9 := by omega
          have tl : decide (p < 128) = false := decide_eq_false hl
          clear hf hs hv hd hU hst hq hl
          rcases ht with ⟨t1, t2, t3⟩ | ⟨t1, t2, t3, t4⟩ | ⟨t1, t2, t3, t4, t5⟩
          all_goals
            go_wp2
            go_quiet (fail)
            go_wp2
            go_quiet (fail)
            go_wp2
            go_roundw
            case rel => exact ⟨k + 1, U, _, by omega, by omega, by go_num, rfl, hide (hUs.out hk8), hr, rfl⟩
            case measure => simp [intOf]; omega
    · obtain rfl | hik : k = zs.length - i ∨ ¬ k = zs.length - i := by omega
      · have hr := hide (rd_none (show rdN 0 0 (zs.drop i) = (0, 0, 3) by rw [hs.out, List.drop_drop, List.drop_of_length_le (by omega)]; rfl))
        have ee : rNumE zs i 0 = 3 := by unfold rNumE; rw [if_pos rfl, hr.out.2.2]
        have ev : rNumV zs i 0 = 0 := by unfold rNumV; rw [ee]; rfl
        have ea : rNumA zs i 0 = i := by unfold rNumA; rw [ee]; rfl
        have he := hide ee; have hv' := hide ev; have ha := hide ea
        have t9 : decide ((zs.length : Int) ≤ (i : Int) + ((zs.length - i : Nat) : Int)) = true := decide_eq_true (by omega)
        clear hs hv ee ev ea
        go_wp2
        go_quiet (fail)
        go_wp2_with (go_at_call 110; (with_reducible refine (hF.out _ 3 (by omega)).mono ?_); rintro x w1 ⟨rfl, h1, hg1⟩; have h1' := hide h1; have hg' := hide hg1; clear h1 hg1)
        go_ret
        exact ⟨ret_int hv'.out.symm, by rw [he.out, ha.out]; exact h1'.out, grown_trans (grown_drewN (grown_refl w _) _) hg'.out⟩
      · omega
end
end Go.Proofs.YtkmcnhjfnjikaaaGreatDoor
/- The writers, said for their callers: where the answer lies. Conditions: those of their contracts. -/
namespace Go.Proofs.YtkmcnhjfnjikaaaGreatDoor
open Go.RowKit
/-- A slice of these n bytes, in new memory or nowhere. -/
def Made (w : World) (n : Nat) (zs : List Int) (e : Ending) (w' : World) : Prop :=
  ∃ A c, e = .returned (.slice A n c) ∧ n ≤ c ∧ Lies w' A zs ∧ (A = none → c = 0) ∧ Below w.heap.size w w'
theorem made_of {w w' : World} {n : Nat} {zs : List Int} {e : Ending} (h : ∃ v, e = .returned v ∧ w'.ownsRow w.heap.size 5 1 v n (cellsOf zs) ∧ Below w.heap.size w w') : Made w n zs e w' := by
  obtain ⟨v, he, ho, hb⟩ := h
  obtain ⟨A, c, rfl, hA⟩ : ∃ A c, v = .slice A n c ∧ (A = none → c = 0) := by
    rcases ho.2 with ⟨rfl, rfl⟩ | ⟨g, cap, cur, rfl, _⟩
    · exact ⟨none, 0, rfl, fun _ => rfl⟩
    · exact ⟨_, cap, rfl, fun h => by cases h⟩
  exact ⟨A, c, he, (town_len ho).2, Lies.of_own ho, hA, hb⟩
/-- A flag's byte. -/
def flag7 (f : Bool) : List Int := [if f then 1 else 0]
section
variable {A : Option Addr} {n c : Nat} {zs : List Int} {w : World}
theorem num_use (m : Int) (hn : zs.length = n) (hz : Lies w A zs) (hc : A = none → c = 0) (ln : n ≤ 140737488355310) (m0 : -9223372036854775808 ≤ m) (m1 : m ≤ 9223372036854775807) :
    Calls Tryz.prog 46 #[.slice A n c, .int .i64 m] w (Made w (n + (num7 m).length) (zs ++ num7 m)) := (num_any A n c zs m w hn hz hc ln m0 m1).mono fun _ _ h => made_of h
theorem rnum_use (m : Int) (hn : zs.length = n) (hz : Lies w A zs) (hc : A = none → c = 0) (ln : n ≤ 140737488355310) (m0 : -9223372036854775808 ≤ m) (m1 : m ≤ 9223372036854775807) :
    Calls Tryz.prog 29 #[.slice A n c, .int .i64 m] w (Made w (n + (num7 m).length) (zs ++ num7 m)) := (rnum_any A n c zs m w hn hz hc ln m0 m1).mono fun _ _ h => made_of h
end
theorem num_nil {m : Int} {ys : List Int} {n : Nat} (w : World) (m0 : -9223372036854775808 ≤ m) (m1 : m ≤ 9223372036854775807) (hy : num7 m = ys) (hn : ys.length = n) :
    Calls Tryz.prog 46 #[.slice none 0 0, .int .i64 m] w (Made w n ys) := by
  subst hy hn
  have h := num_use (zs := []) (n := 0) (c := 0) m rfl (Lies.none_ (w := w) (A := none)) (fun _ => rfl) (by omega) m0 m1
  rwa [List.nil_append, Nat.zero_add] at h
theorem lit_lies (w : World) {zs : List Int} {cs : Array Value} (h : cs = (cellsOf zs).toArray) : Lies (w.alloc (.cells cs 5)) (some ⟨w.heap.size, 0, none⟩) zs := by
  subst h; exact lies_lit w zs 5 (0, 0)
theorem same_lit {A : Option Addr} {n c : Nat} {zs : List Int} {cs : Array Value} {w : World} (hl : Lies w A zs) (hn : zs.length = n) (ln : n ≤ 1000) (hcs : cs = (cellsOf zs).toArray) :
    Calls Tryz.prog 58 #[.slice A n c, .slice (some ⟨w.heap.size, 0, none⟩) n n] (w.alloc (.cells cs 5)) fun e w' => e = .returned (.bool true) ∧ Below w.heap.size w w' := by
  have h := same_any A (some ⟨w.heap.size, 0, none⟩) n n c n zs zs (w.alloc (.cells cs 5)) hn hn (hl.alloc _) (lit_lies w hcs) (by omega) (by omega)
  rw [decide_eq_true rfl] at h
  exact h.mono fun _ _ ⟨he, q, hw⟩ => ⟨he, by rw [hw]; exact kept_drewN (kept_alloc (kept_refl w) _) q⟩
end Go.Proofs.YtkmcnhjfnjikaaaGreatDoor
