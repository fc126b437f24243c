/- Lists of instances as the program answers them; concordbook.Same of two; the program's List at every length. Conditions: the lists lie in memory, their lengths have room. -/
import Derived.Test.YtiaegloipnhhdaaWw
import Derived.Test.YtiaegloipnhhdaaWa
import Derived.Test.YtiaegloipnhhdaaWm
import Derived.Test.YtiaegloipnhhdaaWk
import Derived.Deep.Slices
import Derived.Deep.Fields
import Derived.ChangeSame
import Derived.Test.YtiaegloipnhhdaaWs
import Derived.Test.YtiaegloipnhhdaaWl
namespace Go.Proofs.Ytiaegloipnhhdaa
set_option maxRecDepth 100000
open Go.RowKit
theorem len2 {x : List Int} (h : x.length = 2) : ∃ a b, x = [a, b] := by
  match x, h with
  | [a, b], _ => exact ⟨a, b, rfl⟩
set_option maxHeartbeats 1000000 in
theorem same_inst (A B : Option Addr) (n m c d : Nat) (zs ys : List (List Int)) (w : World) (hn : zs.length = n) (hm : ys.length = m) (az : All 2 zs) (ay : All 2 ys) (hz : Its 2 w A zs) (hy : Its 2 w B ys) (ln : n ≤ 4611686018427387904) (lm : m ≤ 4611686018427387904) :
    Calls Try.prog 23 #[.slice A n c, .slice B m d] w fun e w' => e = .returned (.bool (decide (zs = ys))) ∧ ∃ q, w' = w.drewN q := by
  subst hn hm
  have heq := fun a b c d w => neq_inst a b c d w
  by_cases hl : zs.length = ys.length
  · have hb : ((zs.length : Int) != (ys.length : Int)) = false := by rw [hl]; simp
    have HL := hide hl
    clear hl
    go_enter Try.func23, Try.ntmps23
    go_wp2
    go_loopw [5] (fun i wr => ∃ k q : Nat, k ≤ zs.length ∧ i = .int .i64 k ∧ wr = w.drewN q ∧ Hid (∀ j, j < k → zs[j]? = ys[j]?)) (fun i _ => zs.length - (intOf i).toNat)
    case atStart => exact ⟨0, 0, by omega, rfl, rfl, fun j hj => absurd hj (by omega)⟩
    case round =>
      obtain ⟨k, q, hk, rfl, rfl, hs⟩ := hrel
      by_cases hlt : k < zs.length
      · have hl := HL.out
        obtain ⟨x, hx⟩ : ∃ x, zs[k]? = some x := ⟨_, List.getElem?_eq_getElem hlt⟩
        obtain ⟨y, hyy⟩ : ∃ x, ys[k]? = some x := ⟨_, List.getElem?_eq_getElem (by omega)⟩
        obtain ⟨x1, x2, rfl⟩ := len2 (az.at_ hx)
        obtain ⟨y1, y2, rfl⟩ := len2 (ay.at_ hyy)
        obtain ⟨b1, o1, rfl, _, c⟩ := hz.at_ hx
        obtain ⟨b2, o2, rfl, _, d⟩ := hy.at_ hyy
        have c0 : w.cell? ⟨b1, o1 + k * 2, none⟩ = some (.int .i64 x1) := c 0 (by omega)
        have c1 : w.cell? ⟨b1, o1 + k * 2 + 1, none⟩ = some (.int .i64 x2) := c 1 (by omega)
        have d0 : w.cell? ⟨b2, o2 + k * 2, none⟩ = some (.int .i64 y1) := d 0 (by omega)
        have d1 : w.cell? ⟨b2, o2 + k * 2 + 1, none⟩ = some (.int .i64 y2) := d 1 (by omega)
        have lt1 : k < ys.length := by omega
        have Hz := hide hz; have Hy := hide hy; have HX := hide hx; have HY := hide hyy; clear hz hy hx hyy hl c d
        cases he : sameB x1 x2 y1 y2
        · go_wp2
          go_quiet (fail)
          go_wp2
          go_ret
          refine ⟨ret_bool ?_, _, World.drewN_drewN _ _ _⟩
          symm; rw [decide_eq_false_iff_not]; rintro rfl
          have := HX.out.symm.trans HY.out
          rw [same_iff, decide_eq_false_iff_not] at he
          exact he (Option.some.inj this)
        · go_wp2
          go_quiet (fail)
          go_wp2
          go_roundw
          case rel => exact ⟨k + 1, _, by omega, by go_num, rfl, fun j hj => by
            rcases Nat.lt_or_ge j k with h1 | h1
            · exact hs.out j h1
            · obtain rfl : j = k := by omega
              rw [HX.out, HY.out]
              rw [same_iff, decide_eq_true_iff] at he
              rw [he]⟩
          case measure => simp [intOf]; omega
      · go_wp2
        go_ret
        refine ⟨ret_bool ?_, _, rfl⟩
        symm; rw [decide_eq_true_iff]
        apply List.ext_getElem?
        intro j
        rcases Nat.lt_or_ge j k with h1 | h1
        · exact hs.out j h1
        · have hl := HL.out
          rw [List.getElem?_eq_none (by omega), List.getElem?_eq_none (by omega)]
  · have hb : ((zs.length : Int) != (ys.length : Int)) = true := by simp; omega
    have HL := hide hl
    clear hl
    go_enter Try.func23, Try.ntmps23
    go_wp2
    go_ret
    exact ⟨ret_bool (by symm; rw [decide_eq_false_iff_not]; intro h; exact HL.out (by rw [h])), 0, rfl⟩
/-- The instances of a list, as lists of two. -/
def prs (l : List (Int × Int)) : List (List Int) := l.map fun i => [i.1, i.2]
theorem prs_len (l : List (Int × Int)) : (prs l).length = l.length := List.length_map _
theorem prs_all (l : List (Int × Int)) : All 2 (prs l) := fun x hx => by
  obtain ⟨i, _, rfl⟩ := List.mem_map.1 hx
  rfl
theorem prs_inj {l m : List (Int × Int)} : prs l = prs m ↔ l = m := by
  constructor
  · intro h
    have := congrArg (List.map fun x : List Int => (ix x 0, ix x 1)) h
    unfold prs at this
    rw [List.map_map, List.map_map] at this
    have e : ((fun x : List Int => (ix x 0, ix x 1)) ∘ fun i : Int × Int => [i.1, i.2]) = id := rfl
    rw [e, List.map_id, List.map_id] at this
    exact this
  · rintro rfl; rfl
theorem cellsP_prs (l : List (Int × Int)) : cellsP l = cellsL (prs l) := by
  unfold cellsP cellsL prs
  rw [List.flatMap_map]
  rfl
theorem cellsV_prs (k : List Lc) : cellsV (iV k) = cellsL (prs (k.map Lc.i)) := by
  induction k with
  | nil => rfl
  | cons e k ih =>
    show (_ : List Value) ++ cellsV (iV k) = _
    rw [ih]
    rfl
/-- A value is a slice of these instances. -/
def LsI (w : World) (v : Value) (l : List (Int × Int)) : Prop := ∃ A c, v = .slice A l.length c ∧ Its 2 w A (prs l)
theorem LsI.below {w w' : World} {v : Value} {l : List (Int × Int)} (h : LsI w v l) (hb : Below w.heap.size w w') : LsI w' v l := by
  obtain ⟨A, c, e, hi⟩ := h
  exact ⟨A, c, e, hi.below hb⟩
theorem own_ls {w : World} {base : Nat} {v : Value} {l : List (Int × Int)} {e : TypeId} (h : w.ownsRow base e 2 v l.length (cellsP l)) : LsI w v l := by
  have h' := h
  rcases h.2 with ⟨rfl, h0⟩ | ⟨g, cap, cur, rfl, _⟩
  · have e : l = [] := List.eq_nil_of_length_eq_zero h0
    subst e
    exact ⟨none, 0, rfl, Its.nil_⟩
  · rw [cellsP_prs] at h'
    exact ⟨_, _, rfl, (its_own h' (prs_all l) (by decide)).1⟩
theorem rw_ls {w : World} {base : Nat} {v : Value} {k : List Lc} {e : TypeId} (h : Rw base e 2 w v (iV k)) : LsI w v (k.map Lc.i) := by
  have hl : (iV k).length = (k.map Lc.i).length := by unfold iV; rw [List.length_map, List.length_map]
  unfold Rw at h
  rw [hl, cellsV_prs, ← cellsP_prs] at h
  exact own_ls h
theorem same_ls {w : World} {v u : Value} {l m : List (Int × Int)} (hv : LsI w v l) (hu : LsI w u m) (ln : l.length ≤ 4611686018427387904) (lm : m.length ≤ 4611686018427387904) :
    Calls Try.prog 23 #[v, u] w fun e w' => e = .returned (.bool (decide (l = m))) ∧ Below w.heap.size w w' := by
  obtain ⟨A, c, rfl, hi⟩ := hv
  obtain ⟨B, d, rfl, hj⟩ := hu
  refine (same_inst A B l.length m.length c d (prs l) (prs m) w (prs_len l) (prs_len m) (prs_all l) (prs_all m) hi hj ln lm).mono ?_
  rintro e w' ⟨rfl, q, rfl⟩
  refine ⟨?_, kept_drewN (kept_refl w) q⟩
  rw [show decide (prs l = prs m) = decide (l = m) from decide_eq_decide.2 prs_inj]
theorem plist_all {g b : Nat} {w : World} {x : Lw} (h : Pg w g b x) (hl : x.k.length ≤ 1000000000) :
    Calls Try.prog 12 #[.pointer (some ⟨g, 0, none⟩)] w fun e w' => ∃ v, e = .returned v ∧ LsI w' v (x.k.map Lc.i) ∧ Below w.heap.size w w' := by
  have hs : x.k = [] ∨ SortOk x.k.length := by
    cases hk : x.k with
    | nil => exact .inl rfl
    | cons e k => exact .inr (sort_ok _ (by simp) (by rw [hk] at hl; omega))
  refine (plist_any h hs hl).mono ?_
  rintro e w' ⟨v, rfl, h1, _, h3⟩
  exact ⟨v, rfl, own_ls h1, h3⟩
end Go.Proofs.Ytiaegloipnhhdaa
/- How a row of slots comes in. No condition. -/
namespace Go.Proofs.Ytiaegloipnhhdaa
set_option maxRecDepth 100000
open Go.ChangeShapes Go.WideShapes Go.ChangeAt Go.RowKit Go.Joins
section
variable {H : Type} {enc : TypeId × Value → H} {W : World} {base : Nat} {spare : Nat → Bool} {held : Bool}
theorem agg_arr {r : Reach} {b0 : Nat} {t e : TypeId} {n : Nat} {v : Value} {W : World} (ht : Try.prog.underlying t = some (.array n e)) (h : Value.okWide Try.prog W r b0 t v) : ∃ cs, v = .agg cs ∧ cs.size = Try.prog.cellsOf t := by
  simp only [Value.okWide, ht] at h
  obtain ⟨cs, h1, h2, _⟩ := h
  exact ⟨cs, h1, h2⟩
/-- A row of slots that came in. -/
theorem deps_in {b0 : Nat} {r : Reach} {v : Value} {d : DataW H} {p : List MemPlace} (hv : Value.okWide Try.prog W r b0 25 v) (h : DataW.Trod enc Try.prog W base spare held 25 v d p) : ∃ d1 d2 d3 d4 d5 d6 d7 : Int, v = .agg #[.int .i64 d1, .int .i64 d2, .int .i64 d3, .int .i64 d4, .int .i64 d5, .int .i64 d6, .int .i64 d7] ∧ ∀ n, n ∈ [d1, d2, d3, d4, d5, d6, d7] → I64 n := by
  obtain ⟨cs, rfl, _⟩ := agg_arr Try.underlying25 hv
  obtain ⟨fuel, hf⟩ := h
  obtain ⟨d1, d2, d3, d4, d5, d6, d7, e, ok⟩ := deps_cells hf
  exact ⟨d1, d2, d3, d4, d5, d6, d7, congrArg Value.agg (Array.toList_inj.1 (by simpa [Value.cells] using e)), ok⟩
end
end Go.Proofs.Ytiaegloipnhhdaa
/- What a law keeps of a log beside it: arguments, answers, lists; what a trimmed log's top and cells are. Conditions: the log lies in memory. -/
namespace Go.Proofs.Ytiaegloipnhhdaa
set_option maxRecDepth 100000
open Go.RowKit Go.Maps
theorem below_some {w w' : World} {a : Addr} {v : Value} (h : Below w.heap.size w w') (hc : w.cell? a = some v) : w'.cell? a = some v := by
  have hl : a.block < w.heap.size := by
    rcases Nat.lt_or_ge a.block w.heap.size with h1 | h1
    · exact h1
    · simp [World.cell?, Array.getElem?_eq_none h1] at hc
  exact (h.cell hl).trans hc
theorem cells7 {w : World} {b : Nat} {t : TypeId} {p0 p1 p2 p3 p4 p5 p6 : Int} (h : Row w b t (cA [p0, p1, p2, p3, p4, p5, p6])) : w.cell? ⟨b, 0, none⟩ = some (.int .i64 p0) ∧ w.cell? ⟨b, 1, none⟩ = some (.int .i64 p1) ∧ w.cell? ⟨b, 2, none⟩ = some (.int .i64 p2) ∧ w.cell? ⟨b, 3, none⟩ = some (.int .i64 p3) ∧ w.cell? ⟨b, 4, none⟩ = some (.int .i64 p4) ∧ w.cell? ⟨b, 5, none⟩ = some (.int .i64 p5) ∧ w.cell? ⟨b, 6, none⟩ = some (.int .i64 p6) := ⟨h.cell 0, h.cell 1, h.cell 2, h.cell 3, h.cell 4, h.cell 5, h.cell 6⟩
theorem seven {x : List Int} (h : x.length = 7) : ∃ a0 a1 a2 a3 a4 a5 a6, x = [a0, a1, a2, a3, a4, a5, a6] := by
  match x, h with
  | [a0, a1, a2, a3, a4, a5, a6], _ => exact ⟨a0, a1, a2, a3, a4, a5, a6, rfl⟩
theorem topL_len {x : Lw} (h : Kl x) : (topL x).length = 7 := by unfold topL; rw [topF_len]; exact h.d7
/-- What is so of a log just trimmed, beside its top before. -/
structure Tq (x : Lw) (t : List Int) : Prop where
  el : ∀ e, e ∈ x.k → ∃ r : Nat, r < 7 ∧ e.i.1 = r ∧ ix x.d r < e.i.2 ∧ e.i.2 ≤ ix t r ∧ goneL x.d e.i = false
  tp : ∀ r, r < 7 → ix (topL x) r = max (ix t r) (ix x.d r)
  lo : ∀ r, r < 7 → 0 ≤ ix x.d r ∧ ix x.d r ≤ 1073741824
theorem tq_trim {x : Lw} (h : Kl x) (u : List Int) : Tq (trimL x u) (topL x) := by
  refine ⟨fun e he => ?_, fun r hr => top_trim h u hr, (h.trim u).low⟩
  have hx : e ∈ x.k := (List.mem_filter.1 he).1
  obtain ⟨h1, h2, _⟩ := (h.trim u).ok e he
  have hr := (h.trim u).rep he
  refine ⟨e.i.1.toNat, by omega, by omega, h2, (topF_ix x.k h.d7 (fun e he => h.rep he) e.i.1.toNat).2.1 e hx rfl, ?_⟩
  unfold goneL
  rw [h1, Bool.true_and, decide_eq_false_iff_not]
  show ¬ e.i.2 ≤ ix (trimL x u).d e.i.1.toNat
  omega
/-- A log and an argument in a block of its own. -/
structure T1 (W w : World) (g b : Nat) (x : Lw) (bu : Nat) (u : List Int) : Prop where
  rl : Rl W w g b x
  ru : Row w bu 25 (cA u)
section
variable {W w w' : World} {g b bu bt bc : Nat} {x y : Lw} {u t : List Int} {v : Value} {l : List (Int × Int)}
theorem Rl.apart {cs : Array Value} {q : Nat} (h : Rl W w g b x) (r : Row w q 25 cs) : q ≠ g ∧ q ≠ b := by
  have n1 := rows_ne h.pg.row r (by decide)
  have n2 := h.pg.pm.off r
  omega
theorem T1.below (h : T1 W w g b x bu u) (k : Below w.heap.size w w') : T1 W w' g b x bu u := ⟨h.rl.below k, h.ru.below k h.ru.lt⟩
theorem T1.set (h : T1 W w g b x bu u) (hp : Pg w' g b y) (k : Kq (fun k => k = b) w w') : T1 W w' g b y bu u := by
  have n := h.rl.apart h.ru
  exact ⟨h.rl.set hp k, k.row h.ru (by omega)⟩
theorem T1.trim (h : T1 W w g b x bu u) (hp : Pg w' g b y) (k : Kq (fun k => k = g ∨ k = b) w w') : T1 W w' g b y bu u := by
  have n := h.rl.apart h.ru
  exact ⟨h.rl.trim hp k, k.row h.ru (by omega)⟩
/-- .. and its top before, its cut, its list. -/
structure T2 (W w : World) (g b : Nat) (x : Lw) (bu : Nat) (u : List Int) (bt : Nat) (t : List Int) (bc : Nat) (v : Value) (l : List (Int × Int)) : Prop where
  t1 : T1 W w g b x bu u
  rt : Row w bt 25 (cA t)
  rc : Row w bc 25 (cA x.d)
  own : w.ownsRow 0 28 2 v l.length (cellsP l)
theorem T2.below (h : T2 W w g b x bu u bt t bc v l) (k : Below w.heap.size w w') : T2 W w' g b x bu u bt t bc v l :=
  ⟨h.t1.below k, h.rt.below k h.rt.lt, h.rc.below k h.rc.lt, (Kq.of_below (o := fun _ => False) k).own h.own (fun _ _ e => e)⟩
theorem own_apart {base n : Nat} {xs : List Value} (h : Rl W w g b x) (ho : w.ownsRow base 28 2 v n xs) : ∀ k, v.ownBlock = some k → ¬ (k = g ∨ k = b) := by
  intro k hk
  rcases ho.2 with ⟨rfl, _⟩ | ⟨gg, cap, cur, rfl, _, hb, _⟩
  · cases hk
  · have e : gg = k := by simpa [Value.ownBlock] using hk
    subst e
    have r : Row w gg 28 cur := hb
    have n1 := rows_ne h.pg.row r (by decide)
    have n2 := h.pg.pm.off r
    omega
theorem T2.trim (h : T2 W w g b x bu u bt t bc v l) (hp : Pg w' g b x) (k : Kq (fun k => k = g ∨ k = b) w w') : T2 W w' g b x bu u bt t bc v l := by
  have n1 := h.t1.rl.apart h.rt
  have n2 := h.t1.rl.apart h.rc
  exact ⟨h.t1.trim hp k, k.row h.rt (by omega), k.row h.rc (by omega), k.own h.own (own_apart h.t1.rl h.own)⟩
theorem T2.ls (h : T2 W w g b x bu u bt t bc v l) : LsI w v l := own_ls h.own
end
theorem plist_own {g b : Nat} {w : World} {x : Lw} (h : Pg w g b x) (hl : x.k.length ≤ 1000000000) :
    Calls Try.prog 12 #[.pointer (some ⟨g, 0, none⟩)] w fun e w' => ∃ v, e = .returned v ∧ w'.ownsRow 0 28 2 v (x.k.map Lc.i).length (cellsP (x.k.map Lc.i)) ∧ Below w.heap.size w w' := by
  have hs : x.k = [] ∨ SortOk x.k.length := by
    cases hk : x.k with
    | nil => exact .inl rfl
    | cons e k => exact .inr (sort_ok _ (by simp) (by rw [hk] at hl; omega))
  refine (plist_any h hs hl).mono ?_
  rintro e w' ⟨v, rfl, h1, _, h3⟩
  exact ⟨v, rfl, own_lower h1 (Nat.zero_le _), h3⟩
theorem ga_range {w : World} {q o : Nat} {a : Ga} (h : w.rangeAt q o a.l) : w.rangeAt q (o + 3) a.c.l ∧ w.cell? ⟨q, o + 1, none⟩ = some (.int .i64 a.i.1) ∧ w.cell? ⟨q, o + 1 + 1, none⟩ = some (.int .i64 a.i.2) := by
  refine ⟨fun j v hj => ?_, h 1 _ rfl, h 2 _ rfl⟩
  have hl : a.l[3 + j]? = some v := by
    unfold Ga.l
    show (Value.int .i64 a.k :: Value.int .i64 a.i.1 :: Value.int .i64 a.i.2 :: (a.c.l ++ cellsR a.u))[3 + j]? = some v
    rw [show 3 + j = j + 1 + 1 + 1 by omega, List.getElem?_cons_succ, List.getElem?_cons_succ, List.getElem?_cons_succ, List.getElem?_append_left (List.getElem?_eq_some_iff.1 hj).1]
    exact hj
  have := h (3 + j) v hl
  rw [← Nat.add_assoc] at this
  exact this
end Go.Proofs.Ytiaegloipnhhdaa
