/- append and a literal as steps of a drawn region, for slices of slices of bytes. Conditions: the rows have room. -/
import Derived.Test.YtiaegloipnhhdaaGreatQo
import Derived.Test.YtiaegloipnhhdaaGreatQn
import Derived.Test.YtiaegloipnhhdaaGreatQt
import Derived.Test.YtiaegloipnhhdaaGreatQl
import Derived.Test.YtiaegloipnhhdaaGreatQs
import Derived.Test.YtiaegloipnhhdaaGreatRows
import Derived.Test.YtiaegloipnhhdaaGreatQa
import Derived.WalkKit
import Derived.WalkSpells
import Derived.WalkLawsBesides
import Derived.Test.YtiaegloipnhhdaaGreatQx
namespace Go.Proofs.YtiaegloipnhhdaaGreat
set_option maxRecDepth 100000
open Go.RowKit
theorem step_append_rw {T e : TypeId} {sz : Nat} (hE : ElM T e sz) (hs0 : 0 < sz) {ops : Array Oper} {d : Option Tmp} {ty : TypeId} {ps : String} {af : Array Edge} {s x : Operand} {a : Act} {w : World} {K : Act → World → Prop} {Q : Exit → Act → World → Prop} {E : Prop} {base : Nat} {v : Value} {xs : List (List Value)} {A : Option Addr} {m c : Nat} {zs : List (List Value)}
    (hs : a.eval s = v) (hown : Rw base e sz w v xs) (hx : a.eval x = .slice A m c) (ha : AllV sz zs) (hm : zs.length = m) (hc : A = none → c = 0) (hl : Els sz w A zs) (hb : xs.length + m ≤ 100000) (hbase : base ≤ w.heap.size)
    (hk : ∀ v' w', Rw base e sz w' v' (xs ++ zs) → w.grownBy w' v.ownBlock → K (a.put d v') w') :
    if Region.wanted ({ dst := d, op := .call { callee := .builtin .append, args := #[s, x], argTypes := #[T, T] }, type := ty, pos := ps, after := af, guard := none } : Oper) (yielded ops a.tmps) = true then Oper.wp Tryz.prog { dst := d, op := .call { callee := .builtin .append, args := #[s, x], argTypes := #[T, T] }, type := ty, pos := ps, after := af, guard := none } a w K Q else E := by
  rw [if_pos (by simp [Region.wanted])]
  obtain ⟨i, zz, by', hu, hi, hz0, hz1, hz2, hz3, hby⟩ := hE
  have hbb : (xs.length + m) * by' ≤ 100000 * 200 := Nat.mul_le_mul hb hby
  unfold Rw at hown
  obtain ⟨v', w', hr, r1, r2, _⟩ := run_append_els (P := Tryz.prog) (w := w) base T ty e i zz by' hu hi hz0 hz1 hz2 hs0 hz3 v xs.length xs hown A m c zs ha hm hc hl (by omega) (by omega) hbase
  unfold Oper.wp execOp
  simp only [resolve, invoke, builtin, Sem.run_bind, Sem.run_pure, Result.andThen_ok, List.map_toArray, List.map_cons, List.map_nil, hs, hx, hr]
  refine hk v' w' ?_ r2
  unfold Rw
  rw [List.length_append, hm]
  exact r1
theorem step_lit1 {T : TypeId} {ops : Array Oper} {d : Option Tmp} {ty : TypeId} {ps : String} {af : Array Edge} {a : Act} {w w' : World} {v u : Value} {x : Operand} {K : Act → World → Prop} {Q : Exit → Act → World → Prop} {E : Prop}
    (hx : a.eval x = u) (hr : (Instr.buildSlice T 1 #[(0, u)]).run Tryz.prog w = .ok v w') (hk : K (a.put d v) w') :
    if Region.wanted ({ dst := d, op := .buildSlice T 1 #[(0, x)], type := ty, pos := ps, after := af, guard := none } : Oper) (yielded ops a.tmps) = true then Oper.wp Tryz.prog { dst := d, op := .buildSlice T 1 #[(0, x)], type := ty, pos := ps, after := af, guard := none } a w K Q else E := by
  rw [if_pos (by simp [Region.wanted])]
  unfold Oper.wp execOp
  simp only [List.map_toArray, List.map_cons, List.map_nil, hx, Sem.run_bind, Sem.run_pure, Result.andThen_ok, hr]
  exact hk
theorem els_lit {e : TypeId} {w : World} {g : Nat} {z : List Value} {sz : Nat} (h : Row w g e z.toArray) (hz : z.length = sz) (h1 : ∀ u ∈ z, u.oneCell' = true) : Els sz w (some ⟨g, 0, none⟩) [z] :=
  els_row h (fun x hx => by rw [List.mem_singleton.1 hx]; exact ⟨hz, h1⟩) (by show z = cellsV [z]; simp [cellsV])
theorem elm_rec : ElM 27 42 1 := ⟨_, _, _, rfl, rfl, rfl, rfl, rfl, rfl, by decide⟩
theorem lit_rec (A : Option Addr) (n c : Nat) (w : World) : (Instr.buildSlice 27 1 #[(0, .slice A n c)]).run Tryz.prog w = .ok (.slice (some ⟨w.heap.size, 0, none⟩) 1 1) (w.alloc (.cells [Value.slice A n c].toArray 42)) := by
  have u9 := Tryz.underlying27
  have z9 := Tryz.sizeOf42
  go_simp
end Go.Proofs.YtiaegloipnhhdaaGreat
/- A list of records in memory: a row of slices of bytes, each in a row of its own. Conditions: they lie in memory. -/
namespace Go.Proofs.YtiaegloipnhhdaaGreat
set_option maxRecDepth 100000
open Go.RowKit Go.Maps
/-- Values, each a struct of one cell. -/
def vsV (vs : List Value) : List (List Value) := vs.map fun v => [v]
theorem vsV_len (vs : List Value) : (vsV vs).length = vs.length := List.length_map _
theorem vsV_snoc (vs : List Value) (u : Value) : vsV (vs ++ [u]) = vsV vs ++ [[u]] := by unfold vsV; rw [List.map_append]; rfl
/-- Records, one behind the other. -/
structure Rcs (base : Nat) (w : World) (v : Value) (vs : List Value) (L : List ((Int × Int) × Cl)) : Prop where
  row : Rw base 42 1 w v (vsV vs)
  len : vs.length = L.length
  at_ : ∀ (k : Nat) (u : Value) (r : (Int × Int) × Cl), vs[k]? = some u → L[k]? = some r → By base w u (encRec r.1 r.2)
section
variable {base : Nat} {w w' : World} {v v' u : Value} {vs : List Value} {L : List ((Int × Int) × Cl)}
theorem own_blockk {base n sz : Nat} {e : TypeId} {v : Value} {xs : List Value} (h : w.ownsRow base e sz v n xs) {k : Nat} (hk : v.ownBlock = some k) : ∃ cur, w.heap[k]? = some (.cells cur e (0, 0)) := by
  rcases h.2 with ⟨rfl, _⟩ | ⟨gg, cap, cur, rfl, _, hb, _⟩
  · cases hk
  · have e : gg = k := by simpa [Value.ownBlock] using hk
    subst e
    exact ⟨cur, hb⟩
theorem own_two {b1 b2 n m s1 s2 : Nat} {e f : TypeId} {v u : Value} {xs ys : List Value} (h : w.ownsRow b1 e s1 v n xs) (k : w.ownsRow b2 f s2 u m ys) (hne : e ≠ f) {g : Nat} (hg : v.ownBlock = some g) : u.ownBlock ≠ some g := fun hu => by
  obtain ⟨c1, h1⟩ := own_blockk h hg
  obtain ⟨c2, h2⟩ := own_blockk k hu
  rw [h1] at h2
  injection h2 with h2
  injection h2 with _ h2 _
  exact hne h2
theorem own_off2 {W : World} {g b n sz base : Nat} {x : Lw} {e : TypeId} {v : Value} {xs : List Value} (h : Rl W w g b x) (hne : 62 ≠ e) (ho : w.ownsRow base e sz v n xs) : ∀ k, v.ownBlock = some k → k ≠ g ∧ k ≠ b := by
  intro k hk
  obtain ⟨cur, hb⟩ := own_blockk ho hk
  have r : Row w k e cur := hb
  have n1 := rows_ne h.pg.row r hne
  have n2 := h.pg.pm.off r
  omega
theorem Rcs.nil_ (base : Nat) (w : World) : Rcs base w (.slice none 0 0) [] [] := ⟨⟨rfl, .inl ⟨rfl, rfl⟩⟩, rfl, fun k u r h _ => by cases h⟩
theorem Rcs.keep {o : Nat → Prop} (s : Rcs base w v vs L) (k : Kq o w w') (h1 : ∀ j, v.ownBlock = some j → ¬ o j) (h2 : ∀ u zs, By base w u zs → ∀ j, u.ownBlock = some j → ¬ o j) : Rcs base w' v vs L :=
  ⟨k.own s.row h1, s.len, fun i u r hu hr => k.own (s.at_ i u r hu hr) (h2 u _ (s.at_ i u r hu hr))⟩
theorem Rcs.below (s : Rcs base w v vs L) (hb : Below w.heap.size w w') : Rcs base w' v vs L := s.keep (o := fun _ => False) (.of_below hb) (fun _ _ e => e) (fun _ _ _ _ _ e => e)
/-- A log is written into. -/
theorem Rcs.set {W : World} {g b : Nat} {x : Lw} (s : Rcs base w v vs L) (h : Rl W w g b x) (k : Kq (fun k => k = b) w w') : Rcs base w' v vs L :=
  s.keep k (fun j hj e => (own_off2 h (by decide) s.row j hj).2 e) (fun u zs hy j hj e => (own_off2 h (by decide) hy j hj).2 e)
/-- One more. -/
theorem Rcs.add {i : Int × Int} {c : Cl} (s : Rcs base w v vs L) (hy : By base w u (encRec i c)) (hr : Rw base 42 1 w' v' (vsV vs ++ [[u]])) (hg : w.grownBy w' v.ownBlock) : Rcs base w' v' (vs ++ [u]) (L ++ [(i, c)]) := by
  have far : ∀ {u : Value} {zs : List Int}, By base w u zs → By base w' u zs := fun {u zs} hy => by
    refine World.ownsRow.kept hy hg ?_
    cases hb : u.ownBlock with
    | none => exact .inl rfl
    | some g => exact .inr (fun e => own_two (u := v) hy s.row (show 5 ≠ 42 by decide) hb e.symm)
  refine ⟨by rw [vsV_snoc]; exact hr, by rw [List.length_append, List.length_append, s.len]; rfl, fun k u' r hu hr' => ?_⟩
  rcases Nat.lt_trichotomy k vs.length with h | h | h
  · rw [List.getElem?_append_left h] at hu
    rw [List.getElem?_append_left (by rw [← s.len]; exact h)] at hr'
    exact far (s.at_ k u' r hu hr')
  · subst h
    rw [List.getElem?_append_right (Nat.le_refl _), Nat.sub_self] at hu
    rw [s.len, List.getElem?_append_right (Nat.le_refl _), Nat.sub_self] at hr'
    cases hu
    cases hr'
    exact far hy
  · rw [List.getElem?_eq_none (by rw [List.length_append]; simp; omega)] at hu
    cases hu
end
end Go.Proofs.YtiaegloipnhhdaaGreat
/- Two logs and a list of records beside them; what was played. Conditions: they lie in memory. -/
namespace Go.Proofs.YtiaegloipnhhdaaGreat
set_option maxRecDepth 100000
open Go.RowKit Go.Maps
theorem below_some {w w' : World} {a : Addr} {v : Value} (h : Below w.heap.size w w') (hc : w.cell? a = some v) : w'.cell? a = some v := by
  have hl : a.block < w.heap.size := by
    rcases Nat.lt_or_ge a.block w.heap.size with h1 | h1
    · exact h1
    · simp [World.cell?, Array.getElem?_eq_none h1] at hc
  exact (h.cell hl).trans hc
theorem ga_range {w : World} {q o : Nat} {a : Ga} (h : w.rangeAt q o a.l) : w.rangeAt q (o + 3) a.c.l ∧ w.cell? ⟨q, o + 1, none⟩ = some (.int .i64 a.i.1) ∧ w.cell? ⟨q, o + 1 + 1, none⟩ = some (.int .i64 a.i.2) := by
  refine ⟨fun j v hj => ?_, h 1 _ rfl, h 2 _ rfl⟩
  have hl : a.l[3 + j]? = some v := by
    unfold Ga.l
    show (Value.int .i64 a.k :: Value.int .i64 a.i.1 :: Value.int .i64 a.i.2 :: (a.c.l ++ cellsR a.u))[3 + j]? = some v
    rw [show 3 + j = j + 1 + 1 + 1 by omega, List.getElem?_cons_succ, List.getElem?_cons_succ, List.getElem?_cons_succ, List.getElem?_append_left (List.getElem?_eq_some_iff.1 hj).1]
    exact hj
  have := h (3 + j) v hl
  rw [← Nat.add_assoc] at this
  exact this
/-- What was played. -/
structure Pz (x : Lw) (L : List ((Int × Int) × Cl)) : Prop where
  eq : x = playL zeroLw L
  may : allMay zeroLw L
  ok : ∀ r, r ∈ L → Ok r.1 ∧ lightB r.2 = true ∧ r.2.a.length = 8
theorem Pz.nil_ : Pz zeroLw [] := ⟨rfl, trivial, fun _ h => by cases h⟩
theorem Pz.snoc {x : Lw} {L : List ((Int × Int) × Cl)} {i : Int × Int} {c : Cl} (h : Pz x L) (hm : maySet x i c = true) (hi : Ok i) (hl : lightB c = true) (h8 : c.a.length = 8) : Pz (setL x i c) (L ++ [(i, c)]) :=
  ⟨by rw [playL_snoc, h.eq], allMay_snoc h.may (by rw [← h.eq]; exact hm), fun r hr => by
    rcases List.mem_append.1 hr with h1 | h1
    · exact h.ok r h1
    · rw [List.mem_singleton.1 h1]; exact ⟨hi, hl, h8⟩⟩
/-- Two logs, the records. -/
structure R2 (W w : World) (g b : Nat) (x : Lw) (g2 b2 : Nat) (y : Lw) (v : Value) (vs : List Value) (L : List ((Int × Int) × Cl)) : Prop where
  a : Rl W w g b x
  c : Rl W w g2 b2 y
  r : Rcs W.heap.size w v vs L
  n : g ≠ g2 ∧ g ≠ b2 ∧ b ≠ g2 ∧ b ≠ b2
section
variable {W w w' : World} {g b g2 b2 : Nat} {x x' y y' : Lw} {v v' u : Value} {vs : List Value} {L : List ((Int × Int) × Cl)} {i : Int × Int} {c : Cl}
theorem R2.below (s : R2 W w g b x g2 b2 y v vs L) (hb : Below w.heap.size w w') : R2 W w' g b x g2 b2 y v vs L := ⟨s.a.below hb, s.c.below hb, s.r.below hb, s.n⟩
theorem R2.set1 (s : R2 W w g b x g2 b2 y v vs L) (hp : Pg w' g b x') (k : Kq (fun k => k = b) w w') : R2 W w' g b x' g2 b2 y v vs L :=
  have n := s.n
  ⟨s.a.set hp k, s.c.kq ⟨k.row s.c.pg.row (fun e => n.2.2.1 e.symm), s.c.pg.pm.kq k (fun e => n.2.2.2 e.symm), s.c.pg.kl⟩ k (fun j hj e => by have := s.a.hb; omega), s.r.set s.a k, s.n⟩
theorem R2.set2 (s : R2 W w g b x g2 b2 y v vs L) (hp : Pg w' g2 b2 y') (k : Kq (fun k => k = b2) w w') : R2 W w' g b x g2 b2 y' v vs L :=
  have n := s.n
  ⟨s.a.kq ⟨k.row s.a.pg.row n.2.1, s.a.pg.pm.kq k n.2.2.2, s.a.pg.kl⟩ k (fun j hj e => by have := s.c.hb; omega), s.c.set hp k, s.r.set s.c k, s.n⟩
theorem R2.add (s : R2 W w g b x g2 b2 y v vs L) (hy : By W.heap.size w u (encRec i c)) (hr : Rw W.heap.size 42 1 w' v' (vsV vs ++ [[u]])) (hg : w.grownBy w' v.ownBlock) : R2 W w' g b x g2 b2 y v' (vs ++ [u]) (L ++ [(i, c)]) := by
  have hk : Kq (fun k => v.ownBlock = some k) w w' := Kq.grown hg (fun b e => e)
  have f1 := own_off2 s.a (by decide) s.r.row
  have f2 := own_off2 s.c (by decide) s.r.row
  have lo : ∀ j, j < W.heap.size → ¬ v.ownBlock = some j := fun j hj e => by have := (s.r.row.lt j e).1; omega
  exact ⟨s.a.kq ⟨hk.row s.a.pg.row (fun e => (f1 g e).1 rfl), s.a.pg.pm.kq hk (fun e => (f1 b e).2 rfl), s.a.pg.kl⟩ hk lo, s.c.kq ⟨hk.row s.c.pg.row (fun e => (f2 g2 e).1 rfl), s.c.pg.pm.kq hk (fun e => (f2 b2 e).2 rfl), s.c.pg.kl⟩ hk lo, s.r.add hy hr hg, s.n⟩
theorem r2_new {W w w' : World} {g b g2 b2 : Nat} (h : Rl W w g b zeroLw) (k : Rl w w' g2 b2 zeroLw) : R2 W w' g b zeroLw g2 b2 zeroLw (.slice none 0 0) [] [] :=
  have h1 := h.pg.row.lt
  have h2 := h.pg.pm.lt
  have h3 := k.hg
  have h4 := k.hb
  have h5 := h.low.size
  ⟨h.below k.low, ⟨kept_trans h.low k.low, k.pg, by omega, by omega⟩, Rcs.nil_ _ _, by omega⟩
theorem by_form {b0 : Nat} {w : World} {u : Value} {zs : List Int} (h : By b0 w u zs) : ∃ A c, u = .slice A zs.length c := by
  obtain ⟨A, c, e, _⟩ := h.sl
  exact ⟨A, c, e⟩
end
end Go.Proofs.YtiaegloipnhhdaaGreat
/- What Within comes to. Conditions: the bounds are no negative numbers and have room. -/
namespace Go.Proofs.YtiaegloipnhhdaaGreat
set_option maxRecDepth 100000
open Go.RowKit
def withinI (n lo hi : Int) : Int := lo + n % (hi - lo + 1)
theorem withinI_bounds (n lo hi : Int) (h : lo ≤ hi) : lo ≤ withinI n lo hi ∧ withinI n lo hi ≤ hi := by
  unfold withinI
  have h0 := Int.emod_nonneg n (show hi - lo + 1 ≠ 0 by omega)
  have h1 := Int.emod_lt_of_pos n (show 0 < hi - lo + 1 by omega)
  omega
/-! ### Within -/
theorem tmod_rest (n m : Int) : n % m = n.tmod m % m := by
  have h := Int.mul_tdiv_add_tmod n m
  have e : n % m = (n.tmod m + m * n.tdiv m) % m := by rw [Int.add_comm, h]
  rw [e, Int.add_mul_emod_self_left]
theorem tmod_bounds (n m : Int) (hm : 0 < m) : -m < n.tmod m ∧ n.tmod m < m := by
  refine ⟨?_, Int.tmod_lt_of_pos n hm⟩
  have h := Int.tmod_lt_of_pos (-n) hm
  rw [Int.neg_tmod] at h
  omega
theorem tmod_neg (n m : Int) (hm : 0 < m) (h : n.tmod m < 0) : n % m = n.tmod m + m := by
  have hb := tmod_bounds n m hm
  rw [tmod_rest n m, ← Int.add_emod_right, Int.emod_eq_of_lt (by omega) (by omega)]
theorem tmod_pos (n m : Int) (hm : 0 < m) (h : 0 ≤ n.tmod m) : n % m = n.tmod m := by
  have hb := tmod_bounds n m hm
  rw [tmod_rest n m, Int.emod_eq_of_lt (by omega) (by omega)]

set_option maxHeartbeats 400000 in
theorem within_any (n lo hi : Int) (w : World) (l0 : 0 ≤ lo) (l1 : lo ≤ hi) (l2 : hi ≤ 4611686018427387904) :
    Calls Tryz.prog 10 #[.int .i64 n, .int .i64 lo, .int .i64 hi] w fun e w' => e = .returned (.int .i64 (withinI n lo hi)) ∧ w = w' := by
  have hb := tmod_bounds n (hi - lo + 1) (by omega)
  by_cases c : n.tmod (hi - lo + 1) < 0
  · go_enter Tryz.func10, Tryz.ntmps10
    go_wp2
    go_ret
    exact ⟨ret_int (by unfold withinI; rw [tmod_neg n _ (by omega) c]; omega), rfl⟩
  · go_enter Tryz.func10, Tryz.ntmps10
    go_wp2
    go_ret
    exact ⟨ret_int (by unfold withinI; rw [tmod_pos n _ (by omega) (by omega)]), rfl⟩
end Go.Proofs.YtiaegloipnhhdaaGreat
/- A record replayed, whole and cut off; what was played, one by one. Conditions: the record lies in memory. -/
namespace Go.Proofs.YtiaegloipnhhdaaGreat
set_option maxRecDepth 100000
open Go.RowKit Go.Maps
theorem octets_rec (i : Int × Int) (c : Cl) : Octets (encRec i c) := (octets_encB i).app (octets_encCl c)
theorem rec_replay {b0 : Nat} {w : World} {u : Value} {i : Int × Int} {c : Cl} (hy : By b0 w u (encRec i c)) (hi : rightI i.1 i.2 = true) (hr : rightCl c = true) (h8 : c.a.length = 8) (hs : (encRec i c).length ≤ 140737488355328) :
    Calls Tryz.prog 9 #[u] w fun e w' => e = .returned (.tuple #[.agg #[.int .i64 i.1, .int .i64 i.2], .agg (clC c), .int .i64 0]) ∧ Below w.heap.size w w' := by
  obtain ⟨A, cc, rfl, hA, hn⟩ := hy.sl
  refine (preplay_any A _ cc (encRec i c) w rfl hA (octets_rec i c) hn hs).mono ?_
  rintro e w' ⟨x1, x2, x, er, rfl, hd, _, hb⟩
  rw [rec_there hi hr h8] at hd
  cases hd
  exact ⟨rfl, hb⟩
theorem rec_replay_cut {b0 : Nat} {w : World} {A : Option Addr} {n cc : Nat} {i : Int × Int} {c : Cl} (hy : By b0 w (.slice A n cc) (encRec i c)) (hi : rightI i.1 i.2 = true) (hr : rightCl c = true) (h8 : c.a.length = 8) (hs : (encRec i c).length ≤ 140737488355328) {q : Nat} (hq : q < (encRec i c).length) :
    Calls Tryz.prog 9 #[.slice A q cc] w fun e w' => ∃ x1 x2 x f, e = .returned (.tuple #[.agg #[.int .i64 x1, .int .i64 x2], .agg (clC x), .int .i64 f]) ∧ f ≠ 0 ∧ x.a.length = 8 ∧ Below w.heap.size w w' := by
  obtain ⟨A', c', e, hA, hn⟩ := hy.sl
  injection e with e1 e2 e3
  subst e1 e3
  refine (preplay_any A q cc ((encRec i c).take q) w (by rw [List.length_take]; omega) (hA.take q) (octets_take (octets_rec i c) q) hn (by omega)).mono ?_
  rintro e w' ⟨x1, x2, x, er, rfl, hd, h8x, hb⟩
  refine ⟨x1, x2, x, er, rfl, ?_, h8x, hb⟩
  have := rec_cut hi hr h8 hq
  rw [hd] at this
  exact this
theorem may_at {x : Lw} : ∀ {L : List ((Int × Int) × Cl)} {k : Nat} {r : (Int × Int) × Cl}, allMay x L → L[k]? = some r → maySet (playL x (L.take k)) r.1 r.2 = true := by
  intro L
  induction L generalizing x with
  | nil => intro k r _ h; simp at h
  | cons a L ih =>
    intro k r h hk
    cases k with
    | zero => simp at hk; subst hk; exact h.1
    | succ k => exact ih (x := setL x a.1 a.2) h.2 (by simpa using hk)
theorem play_take {x : Lw} {L : List ((Int × Int) × Cl)} {k : Nat} {r : (Int × Int) × Cl} (hk : L[k]? = some r) : playL x (L.take (k + 1)) = setL (playL x (L.take k)) r.1 r.2 := by
  rw [List.take_add_one, hk]
  exact playL_snoc x _ r
theorem play_len : ∀ (L : List ((Int × Int) × Cl)) (x : Lw), (playL x L).k.length ≤ x.k.length + L.length
  | [], x => Nat.le_refl _
  | r :: L, x => by
    have h1 := play_len L (setL x r.1 r.2)
    have h2 := set_len x r.1 r.2
    show (playL (setL x r.1 r.2) L).k.length ≤ _
    rw [List.length_cons]
    omega
/-- The log at the start of a round. -/
def atRound (x : Lw) (r : Nat) : Lw := if r = 0 then zeroLw else x
theorem round_end {x : Lw} {L : List ((Int × Int) × Cl)} (h : Pz x L) (r : Nat) : playL (atRound x r) L = atRound x (r + 1) := by
  unfold atRound
  rw [if_neg (by omega : ¬ r + 1 = 0)]
  by_cases hr : r = 0
  · rw [if_pos hr, h.eq]
  · rw [if_neg hr]
    conv => lhs; rw [h.eq]
    rw [play_twice Kl.zero (fun r hr => (h.ok r hr).2.2) h.may rfl, ← h.eq]
theorem pz_rec {x : Lw} {L : List ((Int × Int) × Cl)} (h : Pz x L) {k : Nat} {r : (Int × Int) × Cl} (hk : L[k]? = some r) : rightI r.1.1 r.1.2 = true ∧ rightCl r.2 = true ∧ r.2.a.length = 8 ∧ lightB r.2 = true ∧ (encRec r.1 r.2).length ≤ 140737488355328 ∧ 0 < (encRec r.1 r.2).length := by
  have hm := may_parts (may_at h.may hk)
  obtain ⟨_, hl, h8⟩ := h.ok r (List.mem_of_getElem? hk)
  refine ⟨hm.1, hm.2.2.1, h8, hl, ?_, ?_⟩
  · unfold encRec encCl
    rw [if_pos hm.2.2.1, List.length_append]
    have h1 := encB_len r.1
    have h2 := (encX_len h8).2
    unfold lightB sizeC at hl
    have h3 := of_decide_eq_true hl
    omega
  · unfold encRec encB
    rw [List.length_append, List.length_append]
    have := (num7_len r.1.1).1
    omega
theorem cellsV_vs (vs : List Value) : cellsV (vsV vs) = vs := by
  unfold cellsV vsV
  induction vs with
  | nil => rfl
  | cons v vs ih => exact congrArg (v :: ·) ih
theorem Rcs.form {base : Nat} {w : World} {v : Value} {vs : List Value} {L : List ((Int × Int) × Cl)} (s : Rcs base w v vs L) : ∃ A c, v = .slice A L.length c := by
  have h := s.row
  unfold Rw at h
  rw [vsV_len, s.len] at h
  rcases h.2 with ⟨rfl, h0⟩ | ⟨gg, cap, cur, rfl, _⟩
  · exact ⟨none, 0, by rw [h0]⟩
  · exact ⟨_, _, rfl⟩
theorem Rcs.cell {base : Nat} {w : World} {A : Option Addr} {n c : Nat} {vs : List Value} {L : List ((Int × Int) × Cl)} (s : Rcs base w (.slice A n c) vs L) {k : Nat} {u : Value} (hu : vs[k]? = some u) : ∃ gg, A = some ⟨gg, 0, none⟩ ∧ w.cell? ⟨gg, k, none⟩ = some u := by
  have hk : k < vs.length := (List.getElem?_eq_some_iff.1 hu).1
  have h := s.row
  unfold Rw at h
  rw [vsV_len, cellsV_vs] at h
  rcases h.2 with ⟨_, h0⟩ | ⟨gg, cap, cur, e, _, hb, _, _, _, ht⟩
  · omega
  · injection e with e _ _
    refine ⟨gg, e, ?_⟩
    have h1 : (cur.toList.take (vs.length * 1))[k]? = some u := by rw [ht]; exact hu
    rw [List.getElem?_take_of_lt (by omega), Array.getElem?_toList] at h1
    simp only [World.cell?, hb]
    simpa using h1
theorem R2.cell {W w : World} {g b g2 b2 gg n c k : Nat} {x y : Lw} {u : Value} {vs : List Value} {L : List ((Int × Int) × Cl)} (s : R2 W w g b x g2 b2 y (.slice (some ⟨gg, 0, none⟩) n c) vs L) (hu : vs[k]? = some u) : w.cell? ⟨gg, k, none⟩ = some u := by
  obtain ⟨g', e, h⟩ := s.r.cell hu
  cases e
  exact h
theorem within_to (n : Int) (hi : Nat) (l : hi ≤ 4611686018427387904) : ∃ K : Nat, K ≤ hi ∧ ∀ (v : Int) (w : World), v = hi → Calls Tryz.prog 10 #[.int .i64 n, .int .i64 0, .int .i64 v] w fun e w' => e = .returned (.int .i64 K) ∧ Below w.heap.size w w' := by
  have hb := withinI_bounds n 0 hi (by omega)
  refine ⟨(withinI n 0 hi).toNat, by omega, fun v w hv => ?_⟩
  subst hv
  rw [Int.toNat_of_nonneg (by omega)]
  exact (within_any n 0 hi w (by omega) (by omega) (by omega)).mono fun _ _ ⟨h1, h2⟩ => ⟨h1, by rw [← h2]; exact kept_refl w⟩
theorem y_len {x : Lw} {L : List ((Int × Int) × Cl)} (h : Pz x L) (hl : L.length ≤ 40) (r k : Nat) : (playL (atRound x r) (L.take k)).k.length ≤ 100 := by
  have h1 := play_len (L.take k) (atRound x r)
  have h2 := play_len L zeroLw
  rw [← h.eq] at h2
  have h3 : (L.take k).length ≤ 40 := by rw [List.length_take]; omega
  have h4 : (zeroLw).k.length = 0 := rfl
  have h5 : (atRound x r).k.length ≤ 40 := by unfold atRound; split <;> omega
  omega
end Go.Proofs.YtiaegloipnhhdaaGreat
/- Small things for the two logs held against each other: a cell's block made, how many cells were played. No condition. -/
namespace Go.Proofs.YtiaegloipnhhdaaGreat
set_option maxRecDepth 100000
open Go.RowKit Go.Maps
theorem cell_new (w : World) : CeAt (w.alloc (.cells #[.int .i64 0, .int .i64 0, .int .i64 0, .int .i64 0, .int .i64 0, .int .i64 0, .int .i64 0, .int .i64 0, .string ⟨#[]⟩, .string ⟨#[]⟩, .string ⟨#[]⟩, .string ⟨#[]⟩, .int .i64 0, .int .i64 0, .int .i64 0, .int .i64 0, .int .i64 0, .int .i64 0, .int .i64 0, .int .i64 0, .bool false] 38)) w.heap.size 38 zeroCl := CeAt.new (x := zeroCl) rfl w 38
theorem x_len {x : Lw} {L : List ((Int × Int) × Cl)} (h : Pz x L) (hl : L.length ≤ 40) : x.k.length ≤ 100 := by
  have h1 := y_len h hl 0 L.length
  rw [List.take_length, round_end h 0] at h1
  exact h1
theorem seven {x : List Int} (h : x.length = 7) : ∃ a0 a1 a2 a3 a4 a5 a6, x = [a0, a1, a2, a3, a4, a5, a6] := by
  match x, h with
  | [a0, a1, a2, a3, a4, a5, a6], _ => exact ⟨a0, a1, a2, a3, a4, a5, a6, rfl⟩
theorem topL_len {x : Lw} (h : Kl x) : (topL x).length = 7 := by unfold topL; rw [topF_len]; exact h.d7
end Go.Proofs.YtiaegloipnhhdaaGreat
