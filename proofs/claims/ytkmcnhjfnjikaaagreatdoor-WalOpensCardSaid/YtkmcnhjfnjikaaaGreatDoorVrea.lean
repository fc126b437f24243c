/- What package wal's enough and read come to. Conditions: the disk lies in memory as it must, has few files with small numbers. -/
import Derived.Test.YtkmcnhjfnjikaaaGreatDoorWsg
import Derived.Test.YtkmcnhjfnjikaaaGreatDoorKpre
import Derived.Test.YtkmcnhjfnjikaaaGreatDoorKsce
import Derived.Deep.DeepCutAuto
import Derived.Deep.RegionHeld3
namespace Go.Proofs.YtkmcnhjfnjikaaaGreatDoor
open Go.RowKit Go.Maps
set_option maxRecDepth 100000 in
set_option maxHeartbeats 1000000 in
theorem enough_any (A : Option Addr) (n c R : Nat) (zs : List Int) (w : World) (hn : zs.length = n) (hz : Lies w A zs) (ho : Octets zs) (hc : A = none → c = 0) (ln : n ≤ 140737488355328) :
    Calls Tryz.prog 106 #[.slice A n c, .int .i64 R] w fun e w' => e = .returned (.bool (enough zs R)) ∧ Below w.heap.size w w' := by
  have hp := hide (pread_any A n c zs w hn hz ho hc ln)
  clear hz ho hc hn ln
  unfold NewP at hp
  have he := hide (show enough zs R = (decide (rEndE zs (rCntA zs 0 0 maxI) (rCntE zs 0 0 maxI) = 0) && decide (rCntV zs 0 0 maxI ≤ (R : Int))) from rfl)
  generalize enough zs R = t at *
  unfold maxI at he
  go_enter Tryz.func106, Tryz.ntmps106
  go_wp2_with (first
    | (go_at_call 128; (with_reducible refine hp.out.mono ?_); rintro e w1 ⟨g, rfl, hg, r1, b1⟩; have H1 := hide (pcount_any r1 9223372036854775807); have b1 := hide b1; clear r1)
    | (go_at_call 129; (with_reducible refine H1.out.mono ?_); rintro e w2 ⟨rfl, r2, g2⟩; have H2 := hide (pend_any r2); have b2 := hide (b1.out.grown g2 b1.out.size (fun k hk => by cases hk; exact hg)); clear r2 g2)
    | (go_at_call 130; (with_reducible refine H2.out.mono ?_); rintro e w3 ⟨rfl, r3, g3⟩; have b3 := hide (b2.out.grown g3 b2.out.size (fun k hk => by cases hk; exact hg)); clear r3 g3))
  all_goals
    go_ret
    exact ⟨ret_bool (by rw [he.out]; simp [*]), b3.out⟩
set_option maxRecDepth 100000 in
/-- append of a list of slices that lies anywhere onto an own one. -/
theorem append_parts {w : World} {ops : Array Oper} {rest : List Oper} {o : Oper} {a : Act} {Q : Exit → Act → World → Prop} (hgd : o.guard = none) (s x : Operand)
    (ho : o.op = .call { callee := .builtin .append, args := #[s, x], argTypes := #[27, 27] }) (base : Nat) (v : Value) (L : List (List Int)) (hs : a.eval s = v) (hg : Grow base w v L)
    (A : Option Addr) (m c : Nat) (M : List (List Int)) (hx : a.eval x = .slice A m c) (hm : M.length = m) (hc : A = none → c = 0) (lo : Nat) (hM : PartsN lo w A M) (hlo : base ≤ lo) (hv : ∀ k, v.ownBlock = some k → k < lo)
    (hb : (L.length + m) * 24 ≤ 140737488355328) (hbase : base ≤ w.heap.size)
    (h : ∀ v' w', Grow base w' v' (L ++ M) → w.grownBy w' v.ownBlock → wpList Tryz.prog ops Q rest (a.put o.dst v') w') : wpList Tryz.prog ops Q (o :: rest) a w := by
  obtain ⟨i0, hi, hz0, hz1, hz2⟩ := info_parts Tryz.info31
  obtain ⟨vs, hown, hl⟩ := hg.own
  have hvl : vs.length = L.length := by have := hown.1; omega
  subst hm
  rcases A with _ | ad
  · have h0 : M = [] := by
      cases M with
      | nil => rfl
      | cons p r => obtain ⟨_, _, e, _⟩ := hM 0 p rfl; cases e
    subst h0
    obtain rfl := hc rfl
    refine wpList_append_own_none hgd s x 27 ho base 31 i0 1 Tryz.underlying27 hi v L.length vs hs hown hx (h v w ?_ (grown_refl w _))
    rw [List.append_nil]; exact hg
  · obtain ⟨us, hul, hus⟩ : ∃ us : List Value, us.length = M.length ∧ ∀ (j : Nat) (p : List Int), M[j]? = some p → ∃ A' c', us[j]? = some (Value.slice A' p.length c') ∧ w.cell? (ad.add j) = some (Value.slice A' p.length c') ∧ El w p A' c' ∧ Far base w v.ownBlock A' := by
      refine ⟨(List.range M.length).map fun j => (w.cell? (ad.add j)).getD undef, by rw [List.length_map, List.length_range], fun j p hj => ?_⟩
      obtain ⟨b, off, e, hle, hlt, A', c', hcell, hel, hf⟩ := hM j p hj
      injection e with e
      subst e
      have hjl : j < M.length := by
        rcases Nat.lt_or_ge j M.length with h1 | h1
        · exact h1
        · rw [List.getElem?_eq_none h1] at hj; cases hj
      have hcell' : w.cell? ((⟨b, off, none⟩ : Addr).add j) = some (Value.slice A' p.length c') := by
        rcases j with _ | j
        · exact hcell
        · exact hcell
      refine ⟨A', c', ?_, hcell', hel, fun a ha => ⟨fun e => ?_, (hf a ha).2, Nat.le_trans hlo (hf a ha).1⟩⟩
      · rw [List.getElem?_map, List.getElem?_range hjl]
        show some ((w.cell? _).getD undef) = _
        rw [hcell']; rfl
      · have := hv a.block e.symm
        have := (hf a ha).1
        omega
    refine wpList_append_own_at w hgd s x 27 ho base 31 i0 (.slice none 0 0) 1 24 Tryz.underlying27 hi hz0 hz1 hz2 rfl (by omega) v L.length vs hs hown ad M.length c us hx (by omega) (fun j u hj => ?_) (fun u hu => ?_) (by unfold maxLen; omega) hb hbase ?_
    · have hjl : j < M.length := by
        rcases Nat.lt_or_ge j us.length with h1 | h1
        · omega
        · rw [List.getElem?_eq_none h1] at hj; cases hj
      obtain ⟨A', c', h1, h2, _⟩ := hus j M[j] (List.getElem?_eq_getElem hjl)
      rw [h1] at hj; injection hj with hj; rw [← hj]; exact h2
    · obtain ⟨j, hj⟩ := List.mem_iff_getElem?.1 hu
      have hjl : j < M.length := by
        rcases Nat.lt_or_ge j us.length with h1 | h1
        · omega
        · rw [List.getElem?_eq_none h1] at hj; cases hj
      obtain ⟨A', c', h1, _⟩ := hus j M[j] (List.getElem?_eq_getElem hjl)
      rw [h1] at hj; injection hj with hj; rw [← hj]; rfl
    · intro v' w' o' g' _ at'
      exact h v' w' (Grow.mores (fun j p hj => by obtain ⟨A', c', h1, _, h3, h4⟩ := hus j p hj; exact ⟨A', c', h1, h3, h4⟩) hl hvl _ (by rw [List.length_append]) o' g' at') g'
/-- A generation in memory: the block of what was read of it. -/
def genRow (v : Value) (g k u n : Int) : Array Value := #[v, .int .i64 g, .int .i64 k, .int .i64 u, .int .i64 n]
/-- What read answers. -/
def RdgP (w : World) (s : Gs) (g : Nat) (e : Ending) (w' : World) : Prop :=
  Below w.heap.size w w' ∧ ((s.L = [] ∧ e = .returned (.tuple #[.agg #[.slice none 0 0, .int .i64 0, .int .i64 0, .int .i64 0, .int .i64 0], .bool false])) ∨
    (s.L ≠ [] ∧ ∃ A c, e = .returned (.tuple #[.agg #[.slice A s.L.tail.length c, .int .i64 g, .int .i64 s.k, .int .i64 s.u, .int .i64 s.n], .bool (wholeG s)]) ∧ s.L.tail.length ≤ c ∧ PartsN w.heap.size w' A s.L.tail))
/-- What holds at the head of round k. -/
structure Rd (l : List Fl) (g k : Nat) (s : Gs) : Prop where
  one : 1 ≤ k
  found : ∀ j, 1 ≤ j → j < k → (find (segN g j) l).isSome = true
  rest : ∃ f, f + k = l.length + 3 ∧ rd l g f k s = gen l g
  oct : ∀ p, p ∈ s.L → Octets p ∧ p.length ≤ 16384
  num : s.L.length ≤ 1048576 * k
  no : k = 1 → s = Gs.zero
  yes : k ≠ 1 → s.L ≠ []
theorem Rd.start (l : List Fl) (g : Nat) : Rd l g 1 Gs.zero :=
  ⟨by omega, fun j h1 h2 => by omega, ⟨l.length + 2, by omega, rfl⟩, fun p hp => (by cases hp), by simp [Gs.zero], fun _ => rfl, fun h => absurd rfl h⟩
section
variable {l : List Fl} {g k : Nat} {s : Gs}
theorem Rd.le (h : Rd l g k s) (hu : Up l) (hg : 1 ≤ g ∧ g < 100) (hl : l.length ≤ 60) : k ≤ l.length + 1 := by
  have key : ∀ m, m ≤ l.length + 1 → m < k → m ≤ l.length := fun m hm hk => found_le hg hu (by omega) fun j h1 h2 => h.found j h1 (by omega)
  rcases Nat.lt_or_ge (l.length + 1) k with h1 | h1
  · have := key (l.length + 1) (Nat.le_refl _) h1; omega
  · exact h1
theorem Rd.none (h : Rd l g k s) (hu : Up l) (hg : 1 ≤ g ∧ g < 100) (hl : l.length ≤ 60) (hf : find (segN g k) l = none) : gen l g = s := by
  have hk := h.le hu hg hl
  obtain ⟨f, h1, h2⟩ := h.rest
  obtain ⟨f, rfl⟩ : ∃ m, f = m + 1 := ⟨f - 1, by omega⟩
  rw [← h2]
  unfold rd
  rw [hf]
theorem Rd.some (h : Rd l g k s) (hu : Up l) (hg : 1 ≤ g ∧ g < 100) (hl : l.length ≤ 60) {x : Fl} (hf : find (segN g k) l = some x) :
    ((s.more k x.dt).ends = true → gen l g = s.more k x.dt) ∧ ((s.more k x.dt).ends = false → (∀ p, p ∈ frs x.dt → Octets p ∧ p.length ≤ 16384) → (frs x.dt).length ≤ 1048576 → Rd l g (k + 1) (s.more k x.dt)) := by
  have hk := h.le hu hg hl
  obtain ⟨f, h1, h2⟩ := h.rest
  obtain ⟨f, rfl⟩ : ∃ m, f = m + 1 := ⟨f - 1, by omega⟩
  unfold rd at h2
  rw [hf] at h2
  simp only at h2
  constructor
  · intro he
    rw [if_pos he] at h2
    exact h2.symm
  · intro he ho hn
    rw [if_neg (by rw [he]; simp)] at h2
    refine ⟨by omega, fun j h3 h4 => ?_, ⟨f, by omega, h2⟩, fun p hp => ?_, ?_, fun e => absurd e (by have := h.one; omega), fun _ => ?_⟩
    · rcases Nat.lt_or_ge j k with h5 | h5
      · exact h.found j h3 h5
      · obtain rfl : j = k := by omega
        rw [hf]; rfl
    · rcases List.mem_append.1 hp with hp | hp
      · exact h.oct p hp
      · exact ho p hp
    · have := h.num
      show (s.L ++ frs x.dt).length ≤ _
      rw [List.length_append]; omega
    · intro e
      unfold Gs.ends at he
      rw [e] at he
      simp at he
end
theorem kept_trans' {a b c : World} {B : Nat} (h : Below B a b) (hB : B ≤ b.heap.size) (g : Below b.heap.size b c) : Below B a c := h.trans (g.mono hB)
theorem row_new' (w : World) (t : TypeId) (cs : Array Value) (n : Nat) (hn : n = w.heap.size) : Row (w.alloc (.cells cs t)) n t cs := by subst hn; exact Row.new w t cs
/-- The frames of bytes, as Scan answers them. -/
def ScnP (w : World) (zs : List Int) (e : Ending) (w' : World) : Prop :=
  ∃ A c, e = .returned (.tuple #[.slice A (frs zs).length c, .int .i64 (fpl zs : Nat)]) ∧ (frs zs).length ≤ c ∧ (A = none → c = 0) ∧ PartsN w.heap.size w' A (frs zs) ∧ Below w.heap.size w w'
theorem Scanned.frs {w w' : World} {zs : List Int} {e : Ending} (h : Scanned w zs e w') : ScnP w zs e w' := by
  obtain ⟨J, A, c, hu, rfl, h1, h2, h3, h4⟩ := h
  obtain ⟨e1, e2, e3⟩ := frs_of hu
  rw [e1] at h3
  exact ⟨A, c, by rw [e2, e3], by rw [e3]; exact h1, h2, h3, h4⟩
theorem Row.ne_own {w : World} {b n sz base : Nat} {t e : TypeId} {cs : Array Value} {v : Value} {xs : List Value} (h : Row w b t cs) (o : w.ownsRow base e sz v n xs) (hne : t ≠ e) : some b ≠ v.ownBlock := fun k => by
  rcases o.2 with ⟨hv, _⟩ | ⟨g, cap, cur, hv, _, hh, _⟩
  · rw [hv] at k; cases k
  · rw [hv] at k
    injection k with k
    subst k
    exact absurd rfl (kind_ne h hh hne)
/-- The segment's number behind a pointer. -/
def segNum (wr : World) (sv : Value) : Nat :=
  match sv with
  | .pointer (some a) => match wr.cell? ⟨a.block, 1, none⟩ with
    | some (.int _ n) => n.toNat
    | _ => 0
  | _ => 0
theorem segNum_row {wr : World} {sb g k : Nat} (h : Row wr sb 80 #[.int .i64 g, .int .i64 k]) : segNum wr (.pointer (some ⟨sb, 0, none⟩)) = k := by
  unfold segNum
  have := h.cell 1
  simp only [List.getElem?_toArray, List.getElem?_cons_zero, List.getElem?_cons_succ] at this
  simp [this]
/-- What the walk of read holds on to. -/
structure Rm (w wr : World) (g k gg sk su sn : Nat) (L : List (List Int)) (pv : Value) (sb : Nat) : Prop where
  low : Below w.heap.size w wr
  res : Row wr w.heap.size 82 (genRow (.slice none 0 0) 0 0 0 0)
  gen : Row wr (w.heap.size + 1) 82 (genRow (.slice none 0 0) gg sk su sn)
  seg : Row wr sb 80 #[.int .i64 g, .int .i64 k]
  pay : Grow (w.heap.size + 2) wr pv L
  sbg : w.heap.size + 2 ≤ sb
  size : w.heap.size + 2 ≤ wr.heap.size
theorem genRow_put (v a b c d a' b' c' d' : Value) : ((((#[v, a, b, c, d] : Array Value).setIfInBounds 1 a').setIfInBounds 2 b').setIfInBounds 3 c').setIfInBounds 4 d' = #[v, a', b', c', d'] := by simp
theorem genRow_all (v a b c d v' a' b' c' d' : Value) : (((((#[v, a, b, c, d] : Array Value).setIfInBounds 0 v').setIfInBounds 1 a').setIfInBounds 2 b').setIfInBounds 3 c').setIfInBounds 4 d' = #[v', a', b', c', d'] := by simp
/-- A block of five cells, written anew. -/
theorem Row.five {w : World} {b : Nat} {t : TypeId} {u0 u1 u2 u3 u4 : Value} (h : Row w b t #[u0, u1, u2, u3, u4]) (v0 v1 v2 v3 v4 : Value) :
    Row (((((w.setCell ⟨b, 0, none⟩ v0).setCell ⟨b, 1, none⟩ v1).setCell ⟨b, 2, none⟩ v2).setCell ⟨b, 3, none⟩ v3).setCell ⟨b, 4, none⟩ v4) b t #[v0, v1, v2, v3, v4] := by
  have z := ((((h.put 0 v0).put 1 v1).put 2 v2).put 3 v3).put 4 v4
  rwa [genRow_all] at z
theorem Row.all5 {w : World} {b : Nat} {t : TypeId} {u0 u1 u2 u3 u4 : Value} (R : Row w b t #[u0, u1, u2, u3, u4]) :
    w.cell? ⟨b, 0, none⟩ = some u0 ∧ w.cell? ⟨b, 1, none⟩ = some u1 ∧ w.cell? ⟨b, 2, none⟩ = some u2 ∧ w.cell? ⟨b, 3, none⟩ = some u3 ∧ w.cell? ⟨b, 4, none⟩ = some u4 ∧
    w.frozen? ⟨b, 0, none⟩ = false ∧ w.frozen? ⟨b, 1, none⟩ = false ∧ w.frozen? ⟨b, 2, none⟩ = false ∧ w.frozen? ⟨b, 3, none⟩ = false ∧ w.frozen? ⟨b, 4, none⟩ = false :=
  ⟨R.cell 0, R.cell 1, R.cell 2, R.cell 3, R.cell 4, R.free 0, R.free 1, R.free 2, R.free 3, R.free 4⟩
theorem res_gen2 {fn : Func} {tmps : Array Value} {w : World} {a b h : Nat} {v0 v1 v2 v3 v4 v : Value} (hf : fn.results = #[.cell a 82, .tmp b]) (ht : tmps[a]? = some (.pointer (some ⟨h, 0, none⟩))) (hb : tmps[b]? = some v)
    (R : Row w h 82 #[v0, v1, v2, v3, v4]) : (results fn tmps).run Tryz.prog w = .ok (.tuple #[.agg #[v0, v1, v2, v3, v4], v]) w := by
  have c0 := R.cell 0
  have c1 := R.cell 1
  have c2 := R.cell 2
  have c3 := R.cell 3
  have c4 := R.cell 4
  simp only [List.getElem?_toArray, List.getElem?_cons_zero, List.getElem?_cons_succ] at c0 c1 c2 c3 c4
  simp [results, hf, ht, hb, go_sem, c0, c1, c2, c3, c4]
theorem below_five {B : Nat} {a w : World} (h : Below B a w) {b : Nat} (hb : B ≤ b) (v0 v1 v2 v3 v4 : Value) : Below B a (((((w.setCell ⟨b, 0, none⟩ v0).setCell ⟨b, 1, none⟩ v1).setCell ⟨b, 2, none⟩ v2).setCell ⟨b, 3, none⟩ v3).setCell ⟨b, 4, none⟩ v4) :=
  ((((h.setCell (p := ⟨b, 0, none⟩) hb _).setCell (p := ⟨b, 1, none⟩) hb _).setCell (p := ⟨b, 2, none⟩) hb _).setCell (p := ⟨b, 3, none⟩) hb _).setCell (p := ⟨b, 4, none⟩) hb _
section
variable {w wr w' : World} {g k gg sk su sn : Nat} {L M : List (List Int)} {pv v' : Value} {sb : Nat}
theorem Rm.below (h : Rm w wr g k gg sk su sn L pv sb) (hb : Below wr.heap.size wr w') : Rm w w' g k gg sk su sn L pv sb :=
  ⟨kept_trans' h.low (by have := h.size; omega) hb, h.res.below hb h.res.lt, h.gen.below hb h.gen.lt, h.seg.below hb h.seg.lt, h.pay.below hb, h.sbg, Nat.le_trans h.size hb.size⟩
theorem Rm.app (h : Rm w wr g k gg sk su sn L pv sb) (hg : Grow (w.heap.size + 2) w' v' (L ++ M)) (gb : wr.grownBy w' pv.ownBlock) : Rm w w' g k gg sk su sn (L ++ M) v' sb := by
  have hlt := h.pay.lt
  have far : ∀ b, b < w.heap.size + 2 → some b ≠ pv.ownBlock := fun b hb e => by have := hlt b e.symm; omega
  obtain ⟨vs, ho, _⟩ := h.pay.own
  exact ⟨h.low.grown gb (by have := h.size; omega) (fun k hk => by have := hlt k hk; omega), h.res.grown gb (far _ (by omega)), h.gen.grown gb (far _ (by omega)), h.seg.grown gb (h.seg.ne_own ho (by decide)), hg, h.sbg, Nat.le_trans h.size gb.size⟩
/-- A store into a block ahead of the row's base. -/
theorem Grow.store {base b i : Nat} {w : World} {v u : Value} {L : List (List Int)} (h : Grow base w v L) (hb : b < base) : Grow base (w.setCell ⟨b, i, none⟩ u) v L := by
  have e : ∀ k, base ≤ k → (w.setCell ⟨b, i, none⟩ u).heap[k]? = w.heap[k]? := fun k hk => Below.heap_setCell w ⟨b, i, none⟩ u k (by show k ≠ b; omega)
  have hz : (w.setCell ⟨b, i, none⟩ u).heap.size = w.heap.size := by simp [World.setCell]
  obtain ⟨vs, ho, hl⟩ := h.own
  refine ⟨vs, ⟨ho.1, ?_⟩, fun j p hj => ?_⟩
  · rcases ho.2 with hn | ⟨g, cap, cur, hv, hg, hh, rest⟩
    · exact .inl hn
    · exact .inr ⟨g, cap, cur, hv, hg, (e g hg).trans hh, rest⟩
  · obtain ⟨A', c', h1, h2, h3⟩ := hl j p hj
    refine ⟨A', c', h1, ⟨fun hn => ?_, h2.le, h2.nil⟩, fun a ha => ⟨(h3 a ha).1, by rw [hz]; exact (h3 a ha).2.1, (h3 a ha).2.2⟩⟩
    obtain ⟨q, off, e1, hlt, hc⟩ := h2.lies hn
    refine ⟨q, off, e1, by rw [hz]; exact hlt, fun k hk => (World.cell?_of_block (a := ⟨q, off + k, none⟩) (e q ?_)).trans (hc k hk)⟩
    exact (h3 _ e1).2.2
/-- A store into one of the walk's first blocks. -/
theorem Rm.stored (h : Rm w wr g k gg sk su sn L pv sb) (a b u n : Nat) : Rm w ((((wr.setCell ⟨w.heap.size + 1, 1, none⟩ (.int .i64 a)).setCell ⟨w.heap.size + 1, 2, none⟩ (.int .i64 b)).setCell ⟨w.heap.size + 1, 3, none⟩ (.int .i64 u)).setCell ⟨w.heap.size + 1, 4, none⟩ (.int .i64 n)) g k a b u n L pv sb := by
  have hg := h.gen
  unfold genRow at hg
  have z := (((hg.put 1 (.int .i64 a)).put 2 (.int .i64 b)).put 3 (.int .i64 u)).put 4 (.int .i64 n)
  rw [genRow_put] at z
  have other : ∀ {c : Nat} {t : TypeId} {cs : Array Value} {w1 : World} (i : Nat) (v : Value), Row w1 c t cs → c ≠ w.heap.size + 1 → Row (w1.setCell ⟨w.heap.size + 1, i, none⟩ v) c t cs := fun i v hr hne => hr.same (Below.heap_setCell _ ⟨_, i, none⟩ v _ hne)
  have hB : w.heap.size ≤ w.heap.size + 1 := by omega
  refine ⟨(((h.low.setCell (p := ⟨w.heap.size + 1, 1, none⟩) hB _).setCell (p := ⟨w.heap.size + 1, 2, none⟩) hB _).setCell (p := ⟨w.heap.size + 1, 3, none⟩) hB _).setCell (p := ⟨w.heap.size + 1, 4, none⟩) hB _, other _ _ (other _ _ (other _ _ (other _ _ h.res (by omega)) (by omega)) (by omega)) (by omega), z, ?_, (((h.pay.store (by omega)).store (by omega)).store (by omega)).store (by omega), h.sbg, ?_⟩
  · have := h.sbg
    exact other _ _ (other _ _ (other _ _ (other _ _ h.seg (by omega)) (by omega)) (by omega)) (by omega)
  · have := h.size
    simp [World.setCell]; omega
/-- Behind the payloads but the first: all that the answer wants. -/
structure Ts (w wS : World) (gg sk su sn m cp pb : Nat) (AX : Option Addr) (q : List Int) (r : List (List Int)) : Prop where
  low : Below w.heap.size w wS
  res : Row wS w.heap.size 82 #[.slice none 0 0, .int .i64 0, .int .i64 0, .int .i64 0, .int .i64 0]
  gen : Row wS (w.heap.size + 1) 82 #[.slice AX m cp, .int .i64 gg, .int .i64 sk, .int .i64 su, .int .i64 sn]
  one : ∃ A c, wS.cell? ⟨pb, 0, none⟩ = some (.slice A q.length c) ∧ El wS q A c
  rest : PartsN (w.heap.size + 2) wS AX r
  size : w.heap.size + 2 ≤ wS.heap.size
  pbs : pb < wS.heap.size
  pbl : w.heap.size + 2 ≤ pb
  le : r.length ≤ cp
  len : m = r.length
theorem PartsN.store {base b i : Nat} {w : World} {A : Option Addr} {u : Value} {L : List (List Int)} (h : PartsN base w A L) (hb : b < base) : PartsN base (w.setCell ⟨b, i, none⟩ u) A L := fun j p hj => by
  have e : ∀ k, base ≤ k → (w.setCell ⟨b, i, none⟩ u).heap[k]? = w.heap[k]? := fun k hk => Below.heap_setCell w ⟨b, i, none⟩ u k (by show k ≠ b; omega)
  have hz : (w.setCell ⟨b, i, none⟩ u).heap.size = w.heap.size := by simp [World.setCell]
  obtain ⟨g, off, e0, hle, hlt, A', c', hc, hel, hf⟩ := h j p hj
  refine ⟨g, off, e0, hle, by rw [hz]; exact hlt, A', c', (World.cell?_of_block (a := ⟨g, off + j, none⟩) (e g hle)).trans hc, ⟨fun hn => ?_, hel.le, hel.nil⟩, fun a ha => by rw [hz]; exact hf a ha⟩
  obtain ⟨q, off, e1, hlt, hc⟩ := hel.lies hn
  exact ⟨q, off, e1, by rw [hz]; exact hlt, fun k hk => (World.cell?_of_block (a := ⟨q, off + k, none⟩) (e q (hf _ e1).1)).trans (hc k hk)⟩
theorem Rm.tail {n pc pb : Nat} {q : List Int} {r : List (List Int)} (h : Rm w wr g k gg sk su sn (q :: r) (.slice (some ⟨pb, 0, none⟩) n pc) sb) (hp : PartsN (w.heap.size + 2) wr (some ⟨pb, 0, none⟩) (q :: r)) (hn : n = r.length + 1) (hpc : n ≤ pc) (AX : Option Addr) (cp : Nat) (hcp : cp = pc - 1) (hA : pc = 1 ∨ AX = some ⟨pb, 1, none⟩) :
    Ts w (wr.setCell ⟨w.heap.size + 1, 0, none⟩ (.slice AX (n - 1) cp)) gg sk su sn (n - 1) cp pb AX q r := by
  have hg := h.gen
  unfold genRow at hg
  have z := hg.put 0 (.slice AX (n - 1) cp)
  have hp' := hp.store (b := w.heap.size + 1) (i := 0) (u := .slice AX (n - 1) cp) (by omega)
  have hsz := h.size
  obtain ⟨b, off, e, hbl, hlt, A', c', hc, hel, _⟩ := hp' 0 q rfl
  injection e with e; injection e with e1 e2
  subst e1 e2
  refine ⟨h.low.setCell (p := ⟨w.heap.size + 1, 0, none⟩) (by show w.heap.size ≤ w.heap.size + 1; omega) _, h.res.same (Below.heap_setCell _ ⟨_, 0, none⟩ _ _ (by show w.heap.size ≠ w.heap.size + 1; omega)), z, ⟨A', c', hc, hel⟩, ?_, by simp [World.setCell]; omega, hlt, hbl, by omega, by omega⟩
  rcases hA with hA | hA
  · have : r = [] := List.eq_nil_of_length_eq_zero (by omega)
    subst this
    exact fun j p hj => by simp at hj
  · subst hA
    exact hp'.drop1
theorem Ts.cells {wS w2 : World} {m cp pb : Nat} {AX : Option Addr} {q : List Int} {r : List (List Int)} {A : Option Addr} {c : Nat} (h : Ts w wS gg sk su sn m cp pb AX q r) (hc : wS.cell? ⟨pb, 0, none⟩ = some (.slice A q.length c)) (hb : Below wS.heap.size wS w2) :
    w2.cell? ⟨w.heap.size + 1, 0, none⟩ = some (.slice AX m cp) ∧ w2.cell? ⟨w.heap.size + 1, 1, none⟩ = some (.int .i64 gg) ∧ w2.cell? ⟨w.heap.size + 1, 2, none⟩ = some (.int .i64 sk) ∧ w2.cell? ⟨w.heap.size + 1, 3, none⟩ = some (.int .i64 su) ∧ w2.cell? ⟨w.heap.size + 1, 4, none⟩ = some (.int .i64 sn) ∧ w2.cell? ⟨pb, 0, none⟩ = some (.slice A q.length c) := by
  have R := h.gen.below hb h.gen.lt
  exact ⟨R.cell 0, R.cell 1, R.cell 2, R.cell 3, R.cell 4, (hb.cell (p := ⟨pb, 0, none⟩) h.pbs).trans hc⟩
theorem five_other (w : World) {b c : Nat} (hne : c ≠ b) (i : Nat) (v0 v1 v2 v3 v4 : Value) : (((((w.setCell ⟨b, 0, none⟩ v0).setCell ⟨b, 1, none⟩ v1).setCell ⟨b, 2, none⟩ v2).setCell ⟨b, 3, none⟩ v3).setCell ⟨b, 4, none⟩ v4).cell? ⟨c, i, none⟩ = w.cell? ⟨c, i, none⟩ := by
  refine World.cell?_of_block (a := ⟨c, i, none⟩) ?_
  show (((((w.setCell ⟨b, 0, none⟩ v0).setCell ⟨b, 1, none⟩ v1).setCell ⟨b, 2, none⟩ v2).setCell ⟨b, 3, none⟩ v3).setCell ⟨b, 4, none⟩ v4).heap[c]? = w.heap[c]?
  rw [Below.heap_setCell _ ⟨b, 4, none⟩ _ _ hne, Below.heap_setCell _ ⟨b, 3, none⟩ _ _ hne, Below.heap_setCell _ ⟨b, 2, none⟩ _ _ hne, Below.heap_setCell _ ⟨b, 1, none⟩ _ _ hne, Below.heap_setCell _ ⟨b, 0, none⟩ _ _ hne]
theorem Ts.cells5 {wS w2 : World} {m cp pb : Nat} {AX : Option Addr} {q : List Int} {r : List (List Int)} {A : Option Addr} {c : Nat} (h : Ts w wS gg sk su sn m cp pb AX q r) (hc : wS.cell? ⟨pb, 0, none⟩ = some (.slice A q.length c)) (hb : Below wS.heap.size wS w2) (v0 v1 v2 v3 v4 : Value) :
    let w3 := (((((w2.setCell ⟨w.heap.size, 0, none⟩ v0).setCell ⟨w.heap.size, 1, none⟩ v1).setCell ⟨w.heap.size, 2, none⟩ v2).setCell ⟨w.heap.size, 3, none⟩ v3).setCell ⟨w.heap.size, 4, none⟩ v4)
    w3.cell? ⟨w.heap.size + 1, 0, none⟩ = some (.slice AX m cp) ∧ w3.cell? ⟨w.heap.size + 1, 1, none⟩ = some (.int .i64 gg) ∧ w3.cell? ⟨w.heap.size + 1, 2, none⟩ = some (.int .i64 sk) ∧ w3.cell? ⟨w.heap.size + 1, 3, none⟩ = some (.int .i64 su) ∧ w3.cell? ⟨w.heap.size + 1, 4, none⟩ = some (.int .i64 sn) ∧ w3.cell? ⟨pb, 0, none⟩ = some (.slice A q.length c) := by
  have hp := h.pbl
  have z := h.cells hc hb
  rw [← five_other w2 (b := w.heap.size) (c := w.heap.size + 1) (by omega) 0 v0 v1 v2 v3 v4, ← five_other w2 (b := w.heap.size) (c := w.heap.size + 1) (by omega) 1 v0 v1 v2 v3 v4, ← five_other w2 (b := w.heap.size) (c := w.heap.size + 1) (by omega) 2 v0 v1 v2 v3 v4, ← five_other w2 (b := w.heap.size) (c := w.heap.size + 1) (by omega) 3 v0 v1 v2 v3 v4, ← five_other w2 (b := w.heap.size) (c := w.heap.size + 1) (by omega) 4 v0 v1 v2 v3 v4, ← five_other w2 (b := w.heap.size) (c := pb) (by omega) 0 v0 v1 v2 v3 v4] at z
  exact z
theorem Ts.resc {wS w2 : World} {m cp pb : Nat} {AX : Option Addr} {q : List Int} {r : List (List Int)} (h : Ts w wS gg sk su sn m cp pb AX q r) (hb : Below wS.heap.size wS w2) :
    Row w2 w.heap.size 82 #[.slice none 0 0, .int .i64 0, .int .i64 0, .int .i64 0, .int .i64 0] := h.res.below hb h.res.lt
/-- The whole answer. -/
theorem Ts.done {wS w2 : World} {m cp pb : Nat} {AX : Option Addr} {q : List Int} {r : List (List Int)} (h : Ts w wS gg sk su sn m cp pb AX q r) (hgg : gg = g) {s : Gs} (hs : s = ⟨q :: r, sk, su, sn⟩) (hb : Below wS.heap.size wS w2) (v0 v1 v2 v3 v4 : Value) :
    RdgP w s g (.returned (.tuple #[.agg #[.slice AX m cp, .int .i64 gg, .int .i64 sk, .int .i64 su, .int .i64 sn], .bool (enough q m)])) (((((w2.setCell ⟨w.heap.size, 0, none⟩ v0).setCell ⟨w.heap.size, 1, none⟩ v1).setCell ⟨w.heap.size, 2, none⟩ v2).setCell ⟨w.heap.size, 3, none⟩ v3).setCell ⟨w.heap.size, 4, none⟩ v4) := by
  have hsz := h.size
  have hl := h.len
  subst hs hgg hl
  have hp := (h.rest.below hb)
  refine ⟨below_five (kept_trans' h.low (by omega) hb) (Nat.le_refl _) _ _ _ _ _, .inr ⟨by simp, AX, cp, ?_, h.le, ?_⟩⟩
  · show _ = Ending.returned (.tuple #[.agg #[  .slice AX r.length cp, _, _, _, _], .bool (enough q r.length)])
    rfl
  · exact (((((hp.store (by omega)).store (by omega)).store (by omega)).store (by omega)).store (by omega)).mono (by omega)
theorem Rm.zero (h : Rm w wr g k gg sk su sn L pv sb) : Row (((((wr.setCell ⟨w.heap.size, 0, none⟩ (.slice none 0 0)).setCell ⟨w.heap.size, 1, none⟩ (.int .i64 0)).setCell ⟨w.heap.size, 2, none⟩ (.int .i64 0)).setCell ⟨w.heap.size, 3, none⟩ (.int .i64 0)).setCell ⟨w.heap.size, 4, none⟩ (.int .i64 0)) w.heap.size 82 #[.slice none 0 0, .int .i64 0, .int .i64 0, .int .i64 0, .int .i64 0] ∧ Below w.heap.size w (((((wr.setCell ⟨w.heap.size, 0, none⟩ (.slice none 0 0)).setCell ⟨w.heap.size, 1, none⟩ (.int .i64 0)).setCell ⟨w.heap.size, 2, none⟩ (.int .i64 0)).setCell ⟨w.heap.size, 3, none⟩ (.int .i64 0)).setCell ⟨w.heap.size, 4, none⟩ (.int .i64 0)) :=
  ⟨(show Row wr w.heap.size 82 #[_, _, _, _, _] from h.res).five _ _ _ _ _, below_five h.low (Nat.le_refl _) _ _ _ _ _⟩
end
theorem len_enc : ∀ F : List (List Int), F.length ≤ (enc F).length
  | [] => Nat.zero_le _
  | p :: F => by
    have := len_enc F
    rw [enc_cons, List.length_append, length_frm, List.length_cons]; omega
theorem el_of {w : World} {p : List Int} {A : Option Addr} {c b n : Nat} (h : w.ownsRow b 5 1 (.slice A n c) n (cellsOf p)) (hn : p.length = n) : El w p A c := by
  subst hn; exact El.of_own h
def ScnQ (w : World) (fr : List (List Int)) (fp : Nat) (e : Ending) (w' : World) : Prop :=
  ∃ A c, e = .returned (.tuple #[.slice A fr.length c, .int .i64 (fp : Nat)]) ∧ fr.length ≤ c ∧ (A = none → c = 0) ∧ PartsN w.heap.size w' A fr ∧ Below w.heap.size w w'
theorem scnq {w : World} {zs : List Int} {fr : List (List Int)} {fp : Nat} (h1 : frs zs = fr) (h2 : fpl zs = fp) : ScnP w zs = ScnQ w fr fp := by subst h1 h2; rfl
theorem Rm.next {w wr : World} {g k gg sk su sn : Nat} {L : List (List Int)} {pv : Value} {sb : Nat} (h : Rm w wr g k gg sk su sn L pv sb) (K : Int) (hK : K = ((k + 1 : Nat) : Int)) :
    Rm w (wr.alloc (.cells #[.int .i64 g, .int .i64 K] 80)) g (k + 1) gg sk su sn L pv wr.heap.size := by
  subst hK
  have hs := h.size
  have hn := h.below ((Below.refl wr.heap.size wr).alloc (Nat.le_refl _) (.cells #[.int .i64 g, .int .i64 ((k + 1 : Nat) : Int)] 80))
  exact ⟨hn.low, hn.res, hn.gen, Row.new wr _ _, hn.pay, hs, hn.size⟩
end Go.Proofs.YtkmcnhjfnjikaaaGreatDoor
/- What package wal's read comes to: what is read of a generation. Conditions: the disk lies in memory as it must, has few files. -/
namespace Go.Proofs.YtkmcnhjfnjikaaaGreatDoor
open Go.RowKit Go.Maps
set_option maxRecDepth 100000 in
set_option maxHeartbeats 2000000 in
theorem read_gen {X : Nat → Prop} {p : Nat} {d : DS} {w : World} (g : Nat) (hg : 1 ≤ g ∧ g < 100) (h : Dq X w p d) (hln : d.l.length ≤ 60) :
    Calls Tryz.prog 77 #[.pointer (some ⟨p, 0, none⟩), .int .i64 g] w (RdgP w (gen d.l g) g) := by
  have hu := hide h.ok.up
  have hoc := hide (fun (x : Fl) (hx : x ∈ d.l) => h.ok.oct x hx)
  have hfl := hide (fun (x : Fl) (hx : x ∈ d.l) => flen h.ok hx)
  have hsr := hide (fun (w1 : World) (hb : Below w.heap.size w w1) (k : Nat) (hk : k < 100) => sread_any g k hg hk (h.below hb))
  clear h
  have hst := hide (show Rm w (((w.alloc (.cells (genRow (.slice none 0 0) 0 0 0 0) 82)).alloc (.cells (genRow (.slice none 0 0) 0 0 0 0) 82)).alloc (.cells #[.int .i64 (g : Nat), .int .i64 (1 : Nat)] 80)) g 1 0 0 0 0 [] (.slice none 0 0) (w.heap.size + 2) from
    ⟨(((Below.refl w.heap.size w).alloc (Nat.le_refl _) _).alloc (by simp) _).alloc (by simp; try omega) _, ((Row.new w _ _).alloc _).alloc _, (row_new' _ _ _ _ (by simp)).alloc _, row_new' _ _ _ _ (by simp), Grow.nil _ _, by omega, by simp; try omega⟩)
  unfold genRow at hst
  go_enter Tryz.func77, Tryz.ntmps77
  go_wp2
  go_loopw [7, 8] (fun pv sv wr => ∃ (k gg : Nat) (s : Gs) (sb : Nat), sv = .pointer (some ⟨sb, 0, none⟩) ∧ Hid (Rd d.l g k s) ∧ Hid (Rm w wr g k gg s.k s.u s.n s.L pv sb) ∧ Hid (s.L ≠ [] → gg = g)) (fun _ sv wr => 200 - segNum wr sv)
  case atStart => exact ⟨1, 0, Gs.zero, w.heap.size + 2, rfl, Rd.start d.l g, hst.out, fun h => absurd rfl h⟩
  case round =>
    obtain ⟨k, gg, ⟨L, sk, su, sn⟩, sb, rfl, hrd, hrm, hgg⟩ := hrel
    dsimp only at hrm hgg
    have hkl := hrd.out.le hu.out hg hln
    have hk1 := hrd.out.one
    have c0 := hrm.out.seg.cell 0
    have c1 := hrm.out.seg.cell 1
    simp only [List.getElem?_toArray, List.getElem?_cons_zero, List.getElem?_cons_succ] at c0 c1
    have hrs := hide (hsr.out wr hrm.out.low k (by omega))
    have hmeas := hide (segNum_row hrm.out.seg)
    have hno := hrd.out.num
    dsimp only at hno
    obtain ⟨PA, pc, rfl, hple, hpn, hpg, hpp⟩ := hrm.out.pay.parts
    have hpn := hide hpn
    have hpg := hide hpg
    have hpp := hide hpp
    cases hf : find (segN g k) d.l with
    | none =>
      have hgen := hide (hrd.out.none hu.out hg hln hf)
      rw [hf] at hrs
      unfold ReadP at hrs
      clear hf
      cases L with
      | nil =>
        have hz := hide (show (gen d.l g).L = [] by rw [hgen.out])
        go_wp2_with (go_at_call 82; (with_reducible refine hrs.out.mono ?_); rintro e w1 ⟨A, c, rfl, -, b1⟩; have hrm := hide (hrm.out.below b1); obtain ⟨z0, z1, z2, z3, z4, y0, y1, y2, y3, y4⟩ := Row.all5 hrm.out.res)
        have RZ := hide (hrm.out.zero)
        exact bodyPost_ret (res_gen2 Tryz.results77 rfl rfl RZ.out.1) rfl ⟨RZ.out.2, .inl ⟨hz.out, rfl⟩⟩
      | cons q r =>
        have hocq := hide (hrd.out.oct q (List.mem_cons_self ..))
        have hpg1 : ∃ pb, PA = some ⟨pb, 0, none⟩ := by obtain ⟨b, off, e, _⟩ := hpp.out 0 q rfl; obtain ⟨gb, hgb⟩ := hpg.out _ e; exact ⟨gb, by rw [e, hgb]⟩
        obtain ⟨pb, rfl⟩ := hpg1
        have hr := hide (show (q :: r).length = r.length + 1 from rfl)
        have n0 : (((q :: r).length : Int) == 0) = false := by simp; try omega
        have n3 : (0 : Int) < ((q :: r).length : Int) := by simp; try omega
        have n1 : (1 : Int) ≤ ((q :: r).length : Int) := by simp; try omega
        have n2 : ((q :: r).length : Int) ≤ (pc : Int) := by omega
        obtain ⟨n, HN⟩ : ∃ n, (q :: r).length = n := ⟨_, rfl⟩
        rw [HN] at n0 n1 n2 n3 hr hrm hple hno
        have HN := hide HN
        go_wp2_with (go_at_call 82; (with_reducible refine hrs.out.mono ?_); rintro e w1 ⟨A, c, rfl, -, b1⟩; have hrm := hide (hrm.out.below b1); have hpp := hide (hpp.out.below b1); obtain ⟨z0, z1, z2, z3, z4, y0, y1, y2, y3, y4⟩ := Row.all5 hrm.out.gen)
        all_goals
          have HT := hide (fun AX cp hcp hA => hrm.out.tail hpp.out hr.out (by omega) AX cp hcp hA)
          first
            | (have e1 : pc = 1 := by assumption
               subst e1
               have TT := hide (HT.out (some ⟨pb, 0, none⟩) 0 rfl (.inl rfl))
               generalize hwS : World.setCell w1 ⟨w.heap.size + 1, 0, none⟩ (.slice (some ⟨pb, 0, none⟩) (n - 1) 0) = wS at TT ⊢)
            | (have TT := hide (HT.out (some ⟨pb, 1, none⟩) (pc - 1) rfl (.inr rfl)); generalize hwS : World.setCell w1 ⟨w.heap.size + 1, 0, none⟩ (.slice (some ⟨pb, 1, none⟩) (n - 1) (pc - 1)) = wS at TT ⊢)
          clear hwS HT hpp hrm z0 z1 z2 z3 z4 y0 y1 y2 y3 y4 c0 c1
          obtain ⟨AX, m, cp, TT⟩ : ∃ AX m cp, Hid (Ts w wS gg sk su sn m cp pb AX q r) := ⟨_, _, _, TT⟩
          obtain ⟨A9, c9, hc9, hel⟩ := TT.out.one
          have HC := hide (fun w2 hb => TT.out.cells (w2 := w2) hc9 hb)
          have HC5 := hide (fun w2 hb v0 v1 v2 v3 v4 => TT.out.cells5 (w2 := w2) hc9 hb v0 v1 v2 v3 v4)
          have hoq := hocq
          have HE := hide (fun (w2 : World) (hb : Below wS.heap.size wS w2) => enough_any A9 q.length c9 m q w2 rfl (hel.lies.below hb) hoq.out.1 hel.nil (by have := hoq.out.2; omega))
          clear hel hc9 n1 n2 hple hr
          obtain ⟨z0, z1, z2, z3, z4, y0, y1, y2, y3, y4⟩ := Row.all5 TT.out.res
          have n4 : 0 < n := by omega
          have QQ := hide (show Below wS.heap.size wS wS.drew from (Below.refl _ _).drew)
          go_region_held3 (fun w2 => w2.cell? ⟨w.heap.size + 1, 0, none⟩ = some (.slice AX m cp) ∧ w2.cell? ⟨w.heap.size + 1, 1, none⟩ = some (.int .i64 gg) ∧ w2.cell? ⟨w.heap.size + 1, 2, none⟩ = some (.int .i64 sk) ∧ w2.cell? ⟨w.heap.size + 1, 3, none⟩ = some (.int .i64 su) ∧ w2.cell? ⟨w.heap.size + 1, 4, none⟩ = some (.int .i64 sn) ∧ w2.cell? ⟨pb, 0, none⟩ = some (.slice A9 q.length c9)) (first | (with_reducible exact HC.out _ QQ.out) | (with_reducible exact HC5.out _ QQ.out _ _ _ _ _))
            (first | (go_at_call 106; (with_reducible refine (HE.out _ QQ.out).mono ?_); rintro e w2 ⟨rfl, hb⟩; (have QN := hide (kept_trans QQ.out hb)); clear QQ hb; (have QQ := QN); clear QN z0 z1 z2 z3 z4 y0 y1 y2 y3 y4; obtain ⟨z0, z1, z2, z3, z4, y0, y1, y2, y3, y4⟩ := Row.all5 (TT.out.resc QQ.out)))
          all_goals
            go_wp2
            exact bodyPost_ret (res_gen2 Tryz.results77 rfl rfl ((TT.out.resc QQ.out).five _ _ _ _ _)) rfl (TT.out.done (hgg.out (by simp)) hgen.out QQ.out _ _ _ _ _)
    | some x =>
      have hx := hide (find_mem hf).1
      have hsm := hrd.out.some hu.out hg hln hf
      rw [hf] at hrs
      unfold ReadP at hrs
      clear hf
      have hox := hide (hoc.out x hx.out)
      have hxl := hfl.out x hx.out
      have hpt := frs_parts hox.out
      have hfn : (frs x.dt).length ≤ 1048576 := by have := len_enc (frs x.dt); have := hpt.2.2.1; have := fpl_le x.dt; omega
      have hfo := hide (fun p (hp : p ∈ frs x.dt) => (⟨(hpt.2.1 p hp).2, (hpt.2.1 p hp).1.2⟩ : Octets p ∧ p.length ≤ 16384))
      have hsm := hide hsm
      have hfpl := fpl_le x.dt
      clear hpt
      have hds : datO (some x) = x.dt := rfl
      rw [hds] at hrs
      have hll := hide (show Hid (Rm w wr g k gg sk su sn L (.slice PA L.length pc) sb) from hrm)
      obtain ⟨fr, Hfr⟩ : ∃ fr, frs x.dt = fr := ⟨_, rfl⟩
      obtain ⟨fp, Hfp⟩ : ∃ fp, fpl x.dt = fp := ⟨_, rfl⟩
      obtain ⟨nx, Hnx⟩ : ∃ n, x.dt.length = n := ⟨_, rfl⟩
      rw [Hfr] at hfn hfo hsm
      rw [Hfp, Hnx] at hfpl
      rw [Hnx] at hxl hrs
      have Hfr := hide Hfr
      have Hfp := hide Hfp
      have Hnx := hide Hnx
      clear hll
      have hs0 := hrm.out.size
      go_wp2_with (first
        | (go_at_call 82; (with_reducible refine hrs.out.mono ?_); rintro e w1 ⟨A, c, rfl, o1, b1⟩; have HX := hide (el_of o1 Hnx.out); have hrm := hide (hrm.out.below b1); have lt1 := hide (hrm.out.pay.lt); have hs1 := b1.size; have sc := hide ((fscan_any A nx c x.dt w1 Hnx.out HX.out.lies (by have := HX.out.le; have := Hnx.out; omega) hox.out (by omega)).mono fun _ _ h => Scanned.frs h); rw [show ScnP w1 x.dt = ScnQ w1 fr fp from scnq Hfr.out Hfp.out] at sc; clear o1 b1)
        | (go_at_call 105; (with_reducible refine sc.out.mono ?_); rintro e w2 ⟨B, c2, rfl, hle2, hnil2, hp2, b2⟩; have hrm := hide (hrm.out.below b2); have hp2 := hide hp2; have hs2 := b2.size; clear b2)
        | (at_builtin; refine append_parts rfl (.tmp 32) (.tmp 33) rfl (w.heap.size + 2) _ L rfl hrm.out.pay B _ c2 fr rfl rfl hnil2 w1.heap.size hp2.out (by omega) (fun k hk => (lt1.out k hk).2) (by omega) hrm.out.size ?_))
      intro v3 w3 hg3 gb3
      have hrm3 := hide (hrm.out.app hg3 gb3)
      have c0 := hrm3.out.seg.cell 0
      have c1 := hrm3.out.seg.cell 1
      simp only [List.getElem?_toArray, List.getElem?_cons_zero, List.getElem?_cons_succ] at c0 c1
      obtain ⟨z0, z1, z2, z3, z4, y0, y1, y2, y3, y4⟩ := Row.all5 hrm3.out.gen
      have hst4 := hide (hrm3.out.stored g k fp nx)
      have hme := hrm3.out.seg
      have hmeas := hide hmeas.out
      clear hg3 gb3 hrm3 hrm hp2 hrs sc hpn hpg hpp lt1 hme
      go_upto_region 10 with (fail)
      generalize hw4 : World.setCell _ ⟨w.heap.size + 1, 4, none⟩ _ = w4 at hst4 ⊢
      clear hw4 z0 z1 z2 z3 z4 y0 y1 y2 y3 y4 c0 c1
      obtain ⟨PA, pc, rfl, hple, hpn, hpg, hpp⟩ := hst4.out.pay.parts
      have hpg := hide hpg
      have hpp := hide hpp
      have hoM := hide (show ∀ p, p ∈ L ++ fr → Octets p ∧ p.length ≤ 16384 from fun p hp => (List.mem_append.1 hp).elim (hrd.out.oct p) (hfo.out p))
      have Hmore : Gs.more ⟨L, sk, su, sn⟩ k x.dt = ⟨L ++ fr, k, fp, nx⟩ := by unfold Gs.more; rw [Hfr.out, Hfp.out, Hnx.out]
      have hsm1 := hsm.out
      rw [Hmore] at hsm1
      have hsm := hide hsm1
      have hnM : (L ++ fr).length ≤ 1048576 * k + 1048576 := by rw [List.length_append]; omega
      clear Hmore hsm1 hno
      generalize L ++ fr = M at *
      cases M with
      | nil =>
        have hz := hide (show (gen d.l g).L = [] by rw [hsm.out.1 rfl])
        obtain ⟨z0, z1, z2, z3, z4, y0, y1, y2, y3, y4⟩ := Row.all5 hst4.out.res
        go_wp2
        have RZ := hide (hst4.out.zero)
        exact bodyPost_ret (res_gen2 Tryz.results77 rfl rfl RZ.out.1) rfl ⟨RZ.out.2, .inl ⟨hz.out, rfl⟩⟩
      | cons q r =>
        have hno := hnM
        clear hnM
        have hocq := hide (hoM.out q (List.mem_cons_self ..))
        have hpg1 : ∃ pb, PA = some ⟨pb, 0, none⟩ := by obtain ⟨b, off, e, _⟩ := hpp.out 0 q rfl; obtain ⟨gb, hgb⟩ := hpg.out _ e; exact ⟨gb, by rw [e, hgb]⟩
        obtain ⟨pb, rfl⟩ := hpg1
        have hr := hide (show (q :: r).length = r.length + 1 from rfl)
        have n0 : (((q :: r).length : Int) == 0) = false := by simp; try omega
        have n3 : (0 : Int) < ((q :: r).length : Int) := by simp; try omega
        have n1 : (1 : Int) ≤ ((q :: r).length : Int) := by simp; try omega
        have n2 : ((q :: r).length : Int) ≤ (pc : Int) := by omega
        obtain ⟨n, HN⟩ : ∃ n, (q :: r).length = n := ⟨_, rfl⟩
        rw [HN] at n0 n1 n2 n3 hr hst4 hple hno
        have HN := hide HN
        by_cases hlt : fp < nx
        · have hgen := hide (hsm.out.1 (by unfold Gs.ends; simp; exact hlt))
          obtain ⟨z0, z1, z2, z3, z4, y0, y1, y2, y3, y4⟩ := Row.all5 hst4.out.gen
          go_wp2
          all_goals
            have HT := hide (fun AX cp hcp hA => hst4.out.tail hpp.out hr.out (by omega) AX cp hcp hA)
            first
              | (have e1 : pc = 1 := by assumption
                 subst e1
                 have TT := hide (HT.out (some ⟨pb, 0, none⟩) 0 rfl (.inl rfl))
                 generalize hwS : World.setCell w4 ⟨w.heap.size + 1, 0, none⟩ (.slice (some ⟨pb, 0, none⟩) (n - 1) 0) = wS at TT ⊢)
              | (have TT := hide (HT.out (some ⟨pb, 1, none⟩) (pc - 1) rfl (.inr rfl)); generalize hwS : World.setCell w4 ⟨w.heap.size + 1, 0, none⟩ (.slice (some ⟨pb, 1, none⟩) (n - 1) (pc - 1)) = wS at TT ⊢)
            clear hwS HT hpp hrm z0 z1 z2 z3 z4 y0 y1 y2 y3 y4
            obtain ⟨AX, m, cp, TT⟩ : ∃ AX m cp, Hid (Ts w wS g k fp nx m cp pb AX q r) := ⟨_, _, _, TT⟩
            obtain ⟨A9, c9, hc9, hel⟩ := TT.out.one
            have HC := hide (fun w2 hb => TT.out.cells (w2 := w2) hc9 hb)
            have HC5 := hide (fun w2 hb v0 v1 v2 v3 v4 => TT.out.cells5 (w2 := w2) hc9 hb v0 v1 v2 v3 v4)
            have hoq := hocq
            have HE := hide (fun (w2 : World) (hb : Below wS.heap.size wS w2) => enough_any A9 q.length c9 m q w2 rfl (hel.lies.below hb) hoq.out.1 hel.nil (by have := hoq.out.2; omega))
            clear hel hc9 n1 n2 hple hr
            obtain ⟨z0, z1, z2, z3, z4, y0, y1, y2, y3, y4⟩ := Row.all5 TT.out.res
            have n4 : 0 < n := by omega
            have QQ := hide (show Below wS.heap.size wS wS.drew from (Below.refl _ _).drew)
            go_region_held3 (fun w2 => w2.cell? ⟨w.heap.size + 1, 0, none⟩ = some (.slice AX m cp) ∧ w2.cell? ⟨w.heap.size + 1, 1, none⟩ = some (.int .i64 g) ∧ w2.cell? ⟨w.heap.size + 1, 2, none⟩ = some (.int .i64 k) ∧ w2.cell? ⟨w.heap.size + 1, 3, none⟩ = some (.int .i64 fp) ∧ w2.cell? ⟨w.heap.size + 1, 4, none⟩ = some (.int .i64 nx) ∧ w2.cell? ⟨pb, 0, none⟩ = some (.slice A9 q.length c9)) (first | (with_reducible exact HC.out _ QQ.out) | (with_reducible exact HC5.out _ QQ.out _ _ _ _ _))
              (first | (go_at_call 106; (with_reducible refine (HE.out _ QQ.out).mono ?_); rintro e w2 ⟨rfl, hb⟩; (have QN := hide (kept_trans QQ.out hb)); clear QQ hb; (have QQ := QN); clear QN z0 z1 z2 z3 z4 y0 y1 y2 y3 y4; obtain ⟨z0, z1, z2, z3, z4, y0, y1, y2, y3, y4⟩ := Row.all5 (TT.out.resc QQ.out)))
            all_goals
              go_wp2
              exact bodyPost_ret (res_gen2 Tryz.results77 rfl rfl ((TT.out.resc QQ.out).five _ _ _ _ _)) rfl (TT.out.done rfl hgen.out QQ.out _ _ _ _ _)
        · have hrd2 := hide (hsm.out.2 (by unfold Gs.ends; simp; omega) hfo.out hfn)
          have t1 : decide ((fp : Int) < (nx : Int)) = false := by simp; omega
          have t2 : decide (fp < nx) = false := by simp; omega
          have c0 := hst4.out.seg.cell 0
          have c1 := hst4.out.seg.cell 1
          simp only [List.getElem?_toArray, List.getElem?_cons_zero, List.getElem?_cons_succ] at c0 c1
          have hk2 : k ≤ 100 := by omega
          have hwk : IntKind.i64.wrap ((k : Int) + 1) = (k : Int) + 1 := by rw [IntKind.wrap_i64]; omega
          have hnx := hide (hst4.out.next ((k : Int) + 1) (by omega))
          have hm4 := hide (segNum_row (hnx.out.seg))
          clear hlt hst4 hpp hpg n1 n2 n3 hple hr
          go_wp2
          go_roundw
          case rel => exact ⟨k + 1, g, ⟨q :: r, k, fp, nx⟩, w4.heap.size, rfl, hrd2, by rw [show (q :: r).length = n from HN.out]; exact hnx, fun _ => rfl⟩
          case measure =>
            rw [hm4.out, hmeas.out]
            omega
end Go.Proofs.YtkmcnhjfnjikaaaGreatDoor
