/- The program's own Index in memory: a map of what is known, the cut. No condition: no walk. -/
import Derived.Test.YtfihcgimgngmhaaVe
import Derived.Test.YtfihcgimgngmhaaVf
import Derived.LoopTactic
import Derived.Deep.DeepCutAuto
import Derived.Carry
import Derived.Test.YtfihcgimgngmhaaRn
import Derived.Test.YtfihcgimgngmhaaVd
namespace Go.Proofs.Ytfihcgimgngmhaa
set_option maxRecDepth 100000
open Go.RowKit Go.Maps
/-- What stands at an instance, as a value. -/
def enV (e : En) : Value := .agg #[.int .i64 e.c.k, .int .i64 e.c.c, .int .i64 e.c.q, .string e.c.key, .string e.c.en, .string e.c.old, .string e.c.val, .int .i64 e.q]
def kE (k : List En) : Ents := k.map fun e => (e.key, enV e)
/-- An Index's eight cells. -/
def pC (b : Nat) (d : List Int) : Array Value := (Value.map (some b) :: d.map (Value.int .i64)).toArray
structure Px (w : World) (g b : Nat) (x : Ix) : Prop where
  row : Row w g 62 (pC b x.d)
  mp : Mp w b (kE x.k)
  d7 : x.d.length = 7
theorem pC_cut (b : Nat) (d : List Int) {k : Nat} (hk : k < d.length) : (pC b d)[1 + k]? = some (.int .i64 (ix d k)) := by
  unfold pC
  rw [List.getElem?_toArray, show 1 + k = k + 1 by omega, List.getElem?_cons_succ, List.getElem?_map, List.getElem?_eq_getElem hk, ix_lt _ hk]
  rfl
theorem pC_put (b : Nat) (d : List Int) (k : Nat) (v : Int) : (pC b d).setIfInBounds (1 + k) (.int .i64 v) = pC b (d.set k v) := by
  unfold pC
  rw [List.setIfInBounds_toArray, show 1 + k = k + 1 by omega, List.set_cons_succ, List.map_set]
theorem mp_off {w : World} {b g : Nat} {l : Ents} {t : TypeId} {cs : Array Value} (h : Mp w b l) (hr : Row w g t cs) : b ≠ g := by
  rintro rfl
  obtain ⟨D, ⟨es, c, hb, _⟩, _⟩ := h.map
  unfold Row at hr
  rw [hr] at hb
  cases hb
section
variable {w w' : World} {g b : Nat} {x : Ix}
theorem Px.ne (h : Px w g b x) : b ≠ g := mp_off h.mp h.row
theorem Px.lt (h : Px w g b x) : g < w.heap.size ∧ b < w.heap.size := ⟨h.row.lt, h.mp.lt⟩
theorem Px.grown {row : Option Nat} (h : Px w g b x) (hg : w.grownBy w' row) (h1 : some g ≠ row) (h2 : some b ≠ row) : Px w' g b x := ⟨h.row.grown hg h1, h.mp.grown hg h2, h.d7⟩
theorem Px.below (h : Px w g b x) (hb : Below w.heap.size w w') : Px w' g b x := h.grown (grown_below hb) (by simp) (by simp)
theorem Px.drew (h : Px w g b x) : Px w.drew g b x := ⟨h.row.drew, h.mp.drew, h.d7⟩
theorem Px.alloc (h : Px w g b x) (o : Obj) : Px (w.alloc o) g b x := ⟨h.row.alloc o, h.mp.alloc o, h.d7⟩
theorem Px.setCell (h : Px w g b x) {f : Nat} (h1 : g ≠ f) (h2 : b ≠ f) (i : Nat) (u : Value) : Px (w.setCell ⟨f, i, none⟩ u) g b x :=
  h.grown (grown_put (grown_refl w (some f)) i u) (by simpa using h1) (by simpa using h2)
theorem Mp.kq {o : Nat → Prop} {l : Ents} (h : Mp w b l) (hk : Kq o w w') (hn : ¬ o b) : Mp w' b l := by
  obtain ⟨D, ⟨es, c, hb, F, hs, rfl⟩, hm⟩ := h.map
  exact ⟨⟨_, ⟨es, c, (hk.block b h.lt hn).trans hb, F, hs, rfl⟩, hm⟩, h.ok, h.nd⟩
theorem Px.kq {o : Nat → Prop} (h : Px w g b x) (hk : Kq o w w') (h1 : ¬ o g) (h2 : ¬ o b) : Px w' g b x := ⟨hk.row h.row h1, h.mp.kq hk h2, h.d7⟩
theorem Px.known (h : Px w g b x) : w.cell? ⟨g, 0, none⟩ = some (.map (some b)) := h.row.cell 0
theorem Px.cutAt (h : Px w g b x) {k : Nat} (hk : k < 7) : w.cell? ⟨g, 1 + k, none⟩ = some (.int .i64 (ix x.d k)) := by rw [h.row.cell, pC_cut _ _ (by rw [h.d7]; exact hk)]
theorem Px.putCut (h : Px w g b x) (k : Nat) (v : Int) : Px (w.setCell ⟨g, 1 + k, none⟩ (.int .i64 v)) g b ⟨x.k, x.d.set k v⟩ :=
  ⟨by have := h.row.put (1 + k) (.int .i64 v); rwa [pC_put] at this, h.mp.grown (grown_put (grown_refl w (some g)) _ _) (by simpa using h.ne), by rw [List.length_set]; exact h.d7⟩
end
/-! ### The map's entries -/
theorem kE_keys (k : List En) : (kE k).map Prod.fst = k.map En.key := by unfold kE; rw [List.map_map]; rfl
theorem kE_len (k : List En) : (kE k).length = k.length := List.length_map _
theorem mem_kE {k : List En} {z : (Int × Int) × Value} : z ∈ kE k ↔ ∃ e, e ∈ k ∧ (e.key, enV e) = z := List.mem_map
theorem putM_kE (k : List En) (r s : Int) (c : Cm) (q : Int) : putM (kE k) (r, s) (enV ⟨r, s, c, q⟩) = kE (putK k r s c q) := by
  unfold putM putK
  rw [kE_keys]
  by_cases h : (r, s) ∈ k.map En.key
  · rw [if_pos h, if_pos (any_iff.2 h)]
    unfold kE
    rw [List.map_map, List.map_map]
    refine List.map_congr_left fun e _ => ?_
    show (if e.key = (r, s) then ((r, s), enV ⟨r, s, c, q⟩) else (e.key, enV e)) = _
    show _ = ((if e.at_ r s = true then (⟨r, s, c, q⟩ : En) else e).key, enV (if e.at_ r s = true then ⟨r, s, c, q⟩ else e))
    by_cases h2 : e.key = (r, s)
    · rw [if_pos h2, if_pos (at_iff.2 h2)]; rfl
    · rw [if_neg h2, if_neg (fun k => h2 (at_iff.1 k))]
  · rw [if_neg h, if_neg (fun k => h (any_iff.1 k))]
    unfold kE
    rw [List.map_append]
    rfl
theorem delM_kE (k : List En) (x : Int × Int) : delM (kE k) x = kE (k.filter fun e => decide (e.key ≠ x)) := by
  unfold delM kE
  rw [List.filter_map]
  rfl
theorem doneL_kE (k : List En) (left : Lit → Bool) : doneL (kE k) left = kE (k.filter fun e => !left (kl e.key)) := by
  unfold doneL kE
  rw [List.filter_map]
  rfl
/-- An entry, read. -/
def dE (z : (Int × Int) × Value) : En := match z.2 with
  | .agg a => match a.toList with
    | [.int _ k, .int _ c, .int _ q, .string key, .string en, .string old, .string val, .int _ n] => ⟨z.1.1, z.1.2, ⟨k, c, q, key, en, old, val⟩, n⟩
    | _ => ⟨0, 0, ⟨0, 0, 0, .empty, .empty, .empty, .empty⟩, 0⟩
  | _ => ⟨0, 0, ⟨0, 0, 0, .empty, .empty, .empty, .empty⟩, 0⟩
theorem dE_is (e : En) : dE (e.key, enV e) = e := rfl
theorem dE_kE (k : List En) : (kE k).map dE = k := by
  unfold kE
  rw [List.map_map]
  exact (List.map_congr_left fun e _ => dE_is e).trans (List.map_id _)
/-- Of the known ones, those that have come. -/
def doneE (k : List En) (left : Lit → Bool) : List En := k.filter fun e => !left (kl e.key)
theorem doneE_nil {k : List En} {left : Lit → Bool} (h : doneL (kE k) left = []) : doneE k left = [] := by
  rw [doneL_kE] at h
  exact List.map_eq_nil_iff.1 h
theorem doneE_all {k : List En} {left : Lit → Bool} (h : doneL (kE k) left = kE k) : doneE k left = k := by
  rw [doneL_kE] at h
  have := congrArg (List.map dE) h
  rwa [dE_kE, dE_kE] at this
theorem doneE_step {k : List En} {left left' : Lit → Bool} {e : En} (h : (doneL (kE k) left').Perm (doneL (kE k) left ++ [(e.key, enV e)])) : (doneE k left').Perm (doneE k left ++ [e]) := by
  rw [doneL_kE, doneL_kE, show ([(e.key, enV e)] : Ents) = kE [e] from rfl, show kE (k.filter fun e => !left (kl e.key)) ++ kE [e] = kE (k.filter (fun e => !left (kl e.key)) ++ [e]) from List.map_append.symm] at h
  have := h.map dE
  rwa [dE_kE, dE_kE] at this
/-- Noted ones have keys that are ints. -/
theorem key_ok {r s : Int} (h : rightI r s = true) : Ok (r, s) := by
  obtain ⟨a, b, c, d⟩ := rightI_is h
  exact ⟨by unfold I64; simp only; omega, by unfold I64; simp only; omega⟩
end Go.Proofs.Ytfihcgimgngmhaa
/- The program's New, Len, Cut, hides. Conditions: the Index lies in memory. -/
namespace Go.Proofs.Ytfihcgimgngmhaa
set_option maxRecDepth 100000
open Go.RowKit Go.Maps
/-- A row of slots, as cells. -/
def dC (d : List Int) : Array Value := (d.map (Value.int .i64)).toArray
def zero7 : List Int := [0, 0, 0, 0, 0, 0, 0]
theorem dC_at (d : List Int) {k : Nat} (hk : k < d.length) : (dC d)[k]? = some (.int .i64 (ix d k)) := by
  unfold dC
  rw [List.getElem?_toArray, List.getElem?_map, List.getElem?_eq_getElem hk, ix_lt _ hk]
  rfl
theorem dC_put (d : List Int) (k : Nat) (v : Int) : (dC d).setIfInBounds k (.int .i64 v) = dC (d.set k v) := by
  unfold dC
  rw [List.setIfInBounds_toArray, List.map_set]
theorem dC_size (d : List Int) : (dC d).size = d.length := by unfold dC; simp
theorem seven_put {a b c d e f g u0 u1 u2 u3 u4 u5 u6 : Value} : (((((((#[a, b, c, d, e, f, g] : Array Value).setIfInBounds 0 u0).setIfInBounds 1 u1).setIfInBounds 2 u2).setIfInBounds 3 u3).setIfInBounds 4 u4).setIfInBounds 5 u5).setIfInBounds 6 u6 = #[u0, u1, u2, u3, u4, u5, u6] := by
  simp
theorem row_seven {w : World} {g : Nat} {t : TypeId} {d : List Int} (h : Row w g t (dC d)) (hd : d.length = 7) (v0 v1 v2 v3 v4 v5 v6 : Value) :
    Row (((((((w.setCell ⟨g, 0, none⟩ v0).setCell ⟨g, 1, none⟩ v1).setCell ⟨g, 2, none⟩ v2).setCell ⟨g, 3, none⟩ v3).setCell ⟨g, 4, none⟩ v4).setCell ⟨g, 5, none⟩ v5).setCell ⟨g, 6, none⟩ v6) g t #[v0, v1, v2, v3, v4, v5, v6] := by
  obtain ⟨d0, d1, d2, d3, d4, d5, d6, rfl⟩ := len7 hd
  have z := ((((((h.put 0 v0).put 1 v1).put 2 v2).put 3 v3).put 4 v4).put 5 v5).put 6 v6
  rw [show dC [d0, d1, d2, d3, d4, d5, d6] = #[.int .i64 d0, .int .i64 d1, .int .i64 d2, .int .i64 d3, .int .i64 d4, .int .i64 d5, .int .i64 d6] from rfl, seven_put] at z
  exact z
theorem below_seven {B : Nat} {W w : World} {g : Nat} (h : Below B W w) (hg : B ≤ g) (v0 v1 v2 v3 v4 v5 v6 : Value) :
    Below B W (((((((w.setCell ⟨g, 0, none⟩ v0).setCell ⟨g, 1, none⟩ v1).setCell ⟨g, 2, none⟩ v2).setCell ⟨g, 3, none⟩ v3).setCell ⟨g, 4, none⟩ v4).setCell ⟨g, 5, none⟩ v5).setCell ⟨g, 6, none⟩ v6) :=
  ((((((h.setCell hg v0).setCell hg v1).setCell hg v2).setCell hg v3).setCell hg v4).setCell hg v5).setCell hg v6
theorem Row.seven {w : World} {g : Nat} {t : TypeId} {cs : Array Value} (h : Row w g t cs) : w.cell? ⟨g, 0, none⟩ = cs[0]? ∧ w.cell? ⟨g, 1, none⟩ = cs[1]? ∧ w.cell? ⟨g, 2, none⟩ = cs[2]? ∧ w.cell? ⟨g, 3, none⟩ = cs[3]? ∧ w.cell? ⟨g, 4, none⟩ = cs[4]? ∧ w.cell? ⟨g, 5, none⟩ = cs[5]? ∧ w.cell? ⟨g, 6, none⟩ = cs[6]? :=
  ⟨h.cell 0, h.cell 1, h.cell 2, h.cell 3, h.cell 4, h.cell 5, h.cell 6⟩
theorem Row.free7 {w : World} {g : Nat} {t : TypeId} {cs : Array Value} (h : Row w g t cs) : w.frozen? ⟨g, 0, none⟩ = false ∧ w.frozen? ⟨g, 1, none⟩ = false ∧ w.frozen? ⟨g, 2, none⟩ = false ∧ w.frozen? ⟨g, 3, none⟩ = false ∧ w.frozen? ⟨g, 4, none⟩ = false ∧ w.frozen? ⟨g, 5, none⟩ = false ∧ w.frozen? ⟨g, 6, none⟩ = false :=
  ⟨h.free 0, h.free 1, h.free 2, h.free 3, h.free 4, h.free 5, h.free 6⟩
theorem results_deps {fn : Func} {p : Tmp} {tmps : Array Value} {w : World} {g : Nat} {t : TypeId} {cs : Array Value} (hf : fn.results = #[.cell p 32]) (hp : tmps.getD p undef = .pointer (some ⟨g, 0, none⟩)) (hr : Row w g t cs) (hs : cs.size = 7) :
    (results fn tmps).run Try.prog w = .ok (.agg cs) w :=
  results_cell_row hf tmps w g t _ _ _ hp hr Try.underlying32 rfl (by rw [hs]; kernel_rfl)
theorem pnew_any (w : World) : Calls Try.prog 8 #[] w fun e w' => ∃ g b, e = .returned (.pointer (some ⟨g, 0, none⟩)) ∧ Px w' g b zeroX ∧ Below w.heap.size w w' ∧ w.heap.size ≤ g ∧ w.heap.size ≤ b := by
  have hm := Mp.made w
  have HB := hide (kept_alloc (kept_alloc (kept_refl w) (.map #[] 0)) (.cells (pC w.heap.size zeroX.d) 62))
  have HP := hide (show Px ((w.alloc (.map #[] 0)).alloc (.cells (pC w.heap.size zeroX.d) 62)) (w.heap.size + 1) w.heap.size zeroX from ⟨by
    have h := Row.new (w.alloc (.map #[] 0)) 62 (pC w.heap.size zeroX.d)
    have hs : (w.alloc (.map #[] 0)).heap.size = w.heap.size + 1 := by simp
    rwa [hs] at h, hm.alloc _, rfl⟩)
  clear hm
  have hmm := @run_makeMap Try.prog
  go_enter Try.func8, Try.ntmps8
  go_wp2
  go_ret
  exact ⟨_, _, rfl, HP.out, HB.out, by omega, Nat.le_refl _⟩
theorem plen_any (g b : Nat) (x : Ix) (w : World) (h : Px w g b x) : Calls Try.prog 15 #[.pointer (some ⟨g, 0, none⟩)] w fun e w' => e = .returned (.int .i64 x.k.length) ∧ Below w.heap.size w w' := by
  have c0 : w.cell? ⟨g, 0, none⟩ = some (.map (some b)) := h.known
  obtain ⟨D, hD, hT⟩ := h.mp.map
  have HD := hide hD
  have HS := hide hT.size
  clear hD hT h
  go_enter Try.func15, Try.ntmps15
  go_wp2_with (at_len; refine wpList_len_own _ rfl _ 60 rfl 26 64 Try.underlying60 _ b _ D rfl HD.out ?_)
  go_ret
  rw [HS.out, kE_len]
  exact ⟨rfl, kept_refl w⟩
theorem pcut_any (g b : Nat) (x : Ix) (w : World) (h : Px w g b x) : Calls Try.prog 20 #[.pointer (some ⟨g, 0, none⟩)] w fun e w' => e = .returned (.agg (dC x.d)) ∧ Below w.heap.size w w' := by
  obtain ⟨k, d⟩ := x
  obtain ⟨d0, d1, d2, d3, d4, d5, d6, rfl⟩ := len7 h.d7
  have H := hide (h.alloc (.cells (dC zero7) 32))
  have R := hide (Row.new w 32 (dC zero7))
  have HB := hide (kept_alloc (kept_refl w) (.cells (dC zero7) 32))
  clear h
  go_enter Try.func20, Try.ntmps20
  go_upto_region 1 with (fail)
  replace R : Hid (Row (w.alloc (.cells #[Value.int .i64 0, Value.int .i64 0, Value.int .i64 0, Value.int .i64 0, Value.int .i64 0, Value.int .i64 0, Value.int .i64 0] 32)) w.heap.size 32 (dC zero7)) := R
  replace H : Hid (Px (w.alloc (.cells #[Value.int .i64 0, Value.int .i64 0, Value.int .i64 0, Value.int .i64 0, Value.int .i64 0, Value.int .i64 0, Value.int .i64 0] 32)) g b ⟨k, [d0, d1, d2, d3, d4, d5, d6]⟩) := H
  replace HB : Hid (Below w.heap.size w (w.alloc (.cells #[Value.int .i64 0, Value.int .i64 0, Value.int .i64 0, Value.int .i64 0, Value.int .i64 0, Value.int .i64 0, Value.int .i64 0] 32))) := HB
  generalize w.alloc (.cells #[Value.int .i64 0, Value.int .i64 0, Value.int .i64 0, Value.int .i64 0, Value.int .i64 0, Value.int .i64 0, Value.int .i64 0] 32) = w1 at R H HB ⊢
  have c1 : w1.cell? ⟨g, 1, none⟩ = some (.int .i64 d0) := H.out.row.cell 1
  have c2 : w1.cell? ⟨g, 2, none⟩ = some (.int .i64 d1) := H.out.row.cell 2
  have c3 : w1.cell? ⟨g, 3, none⟩ = some (.int .i64 d2) := H.out.row.cell 3
  have c4 : w1.cell? ⟨g, 4, none⟩ = some (.int .i64 d3) := H.out.row.cell 4
  have c5 : w1.cell? ⟨g, 5, none⟩ = some (.int .i64 d4) := H.out.row.cell 5
  have c6 : w1.cell? ⟨g, 6, none⟩ = some (.int .i64 d5) := H.out.row.cell 6
  have c7 : w1.cell? ⟨g, 7, none⟩ = some (.int .i64 d6) := H.out.row.cell 7
  obtain ⟨e0, e1, e2, e3, e4, e5, e6⟩ := R.out.seven
  replace e0 : w1.cell? ⟨w.heap.size, 0, none⟩ = some (.int .i64 0) := e0
  replace e1 : w1.cell? ⟨w.heap.size, 1, none⟩ = some (.int .i64 0) := e1
  replace e2 : w1.cell? ⟨w.heap.size, 2, none⟩ = some (.int .i64 0) := e2
  replace e3 : w1.cell? ⟨w.heap.size, 3, none⟩ = some (.int .i64 0) := e3
  replace e4 : w1.cell? ⟨w.heap.size, 4, none⟩ = some (.int .i64 0) := e4
  replace e5 : w1.cell? ⟨w.heap.size, 5, none⟩ = some (.int .i64 0) := e5
  replace e6 : w1.cell? ⟨w.heap.size, 6, none⟩ = some (.int .i64 0) := e6
  obtain ⟨f0, f1, f2, f3, f4, f5, f6⟩ := R.out.free7
  go_wp2
  exact bodyPost_ret (results_deps Try.results20 rfl (row_seven R.out rfl _ _ _ _ _ _ _) rfl) rfl ⟨rfl, below_seven HB.out (Nat.le_refl _) _ _ _ _ _ _ _⟩
theorem hides_any (r s r' s' : Int) (w : World) : Calls Try.prog 28 #[.agg #[.int .i64 r, .int .i64 s], .agg #[.int .i64 r', .int .i64 s']] w fun e w' => e = .returned (.bool (r' == r && decide (s ≤ s'))) ∧ Below w.heap.size w w' := by
  have HB := hide (kept_alloc (kept_alloc (kept_refl w) (.cells #[.int .i64 r, .int .i64 s] 26)) (.cells #[.int .i64 r', .int .i64 s'] 26))
  have R1 := hide ((Row.new w 26 #[.int .i64 r, .int .i64 s]).alloc (.cells #[.int .i64 r', .int .i64 s'] 26))
  have R2 := hide (Row.new (w.alloc (.cells #[.int .i64 r, .int .i64 s] 26)) 26 #[.int .i64 r', .int .i64 s'])
  rw [show (w.alloc (.cells #[.int .i64 r, .int .i64 s] 26)).heap.size = w.heap.size + 1 by simp] at R2
  obtain ⟨t, ht⟩ : ∃ t, (r' == r) = t := ⟨_, rfl⟩
  obtain ⟨u, hu⟩ : ∃ t, decide (s ≤ s') = t := ⟨_, rfl⟩
  rw [ht, hu]
  go_enter Try.func28, Try.ntmps28
  go_upto_region 1 with (fail)
  generalize (w.alloc (.cells #[.int .i64 r, .int .i64 s] 26)).alloc (.cells #[.int .i64 r', .int .i64 s'] 26) = w1 at HB R1 R2 ⊢
  have c0 : w1.cell? ⟨w.heap.size, 0, none⟩ = some (.int .i64 r) := R1.out.cell 0
  have c1 : w1.cell? ⟨w.heap.size, 1, none⟩ = some (.int .i64 s) := R1.out.cell 1
  have c2 : w1.cell? ⟨w.heap.size + 1, 0, none⟩ = some (.int .i64 r') := R2.out.cell 0
  have c3 : w1.cell? ⟨w.heap.size + 1, 1, none⟩ = some (.int .i64 s') := R2.out.cell 1
  cases t <;> cases u
  all_goals
    go_wp2
    go_ret
    exact ⟨rfl, HB.out⟩
end Go.Proofs.Ytfihcgimgngmhaa
/- The program's least of package interf's chapter. Conditions: the Index lies in memory. -/
namespace Go.Proofs.Ytfihcgimgngmhaa
set_option maxRecDepth 100000
open Go.RowKit Go.Maps
/-- What a new one depends on at least. -/
def lowI (d : List Int) (r s : Int) (k : Nat) : Int := if (k : Int) = r then (if rightI r s = true then s - 1 else 0) else ix d k
def leastL (d : List Int) (r s : Int) : List Int := (List.range 7).map (lowI d r s)
def ownZ (d : List Int) (r : Int) (k : Nat) : Int := if (k : Int) = r then 0 else ix d k
theorem leastL_len (d : List Int) (r s : Int) : (leastL d r s).length = 7 := len_map7 _
theorem leastL_ix (d : List Int) (r s : Int) {k : Nat} (hk : k < 7) : ix (leastL d r s) k = lowI d r s k := ix_map7 (lowI d r s) hk
theorem ext7 {x y : List Int} (hx : x.length = 7) (hy : y.length = 7) (h : ∀ k, k < 7 → ix x k = ix y k) : x = y := by
  refine List.ext_getElem (hx.trans hy.symm) fun k h1 h2 => ?_
  have := h k (by omega)
  rw [ix_lt _ h1, ix_lt _ h2] at this
  exact this
theorem least_not (d : List Int) {r s : Int} (h : rightI r s = false) : (List.range 7).map (ownZ d r) = leastL d r s := by
  refine ext7 (len_map7 _) (len_map7 _) fun k hk => ?_
  rw [ix_map7 _ hk, leastL_ix _ _ _ hk]
  unfold ownZ lowI
  rw [h]
  simp
theorem ix_set7 (a : List Int) (v : Int) {i k : Nat} (ha : a.length = 7) (hk : k < 7) : ix (a.set i v) k = if i = k then v else ix a k := by
  by_cases e : i = k
  · subst e
    rw [if_pos rfl, ix_lt _ (by rw [List.length_set]; omega), List.getElem_set_self]
  · rw [if_neg e, ix_set_ne _ _ e]
theorem least_yes (d : List Int) {r : Nat} {s : Int} (h : rightI r s = true) : ((List.range 7).map (ownZ d r)).set r (s - 1) = leastL d r s := by
  refine ext7 (by rw [List.length_set]; exact len_map7 _) (len_map7 _) fun k hk => ?_
  rw [ix_set7 _ _ (len_map7 _) hk, ix_map7 _ hk, leastL_ix _ _ _ hk]
  unfold ownZ lowI
  rw [h]
  by_cases e : r = k
  · subst e; simp
  · rw [if_neg e, if_neg (by omega), if_neg (by omega)]
structure Pl (w wr : World) (g b : Nat) (x : Ix) (r s : Int) (D : List Int) : Prop where
  low : Below w.heap.size w wr
  px : Px wr g b x
  bi : Row wr w.heap.size 26 #[.int .i64 r, .int .i64 s]
  br : Row wr (w.heap.size + 1) 32 (dC zero7)
  bd : Row wr (w.heap.size + 2) 32 (dC D)
  len : D.length = 7
section
variable {w wr wx : World} {g b : Nat} {x : Ix} {r s : Int} {D : List Int}
theorem Pl.below (h : Pl w wr g b x r s D) (hb : Below wr.heap.size wr wx) : Pl w wx g b x r s D := ⟨kept_trans h.low hb, h.px.below hb, h.bi.below hb h.bi.lt, h.br.below hb h.br.lt, h.bd.below hb h.bd.lt, h.len⟩
theorem Pl.put (h : Pl w wr g b x r s D) (k : Nat) (v : Int) : Pl w (wr.setCell ⟨w.heap.size + 2, k, none⟩ (.int .i64 v)) g b x r s (D.set k v) := by
  have hg := grown_put (grown_refl wr (some (w.heap.size + 2))) k (.int .i64 v)
  refine ⟨h.low.setCell (by show w.heap.size ≤ w.heap.size + 2; omega) _, h.px.setCell (rows_ne h.px.row h.bd (by decide)) (mp_off h.px.mp h.bd) _ _, h.bi.grown hg (by simp), h.br.grown hg (by simp), ?_, by rw [List.length_set]; exact h.len⟩
  have := h.bd.put k (.int .i64 v)
  rwa [dC_put] at this
theorem Pl.at_ (h : Pl w wr g b x r s D) {k : Nat} (hk : k < 7) : wr.cell? ⟨w.heap.size + 2, k, none⟩ = some (.int .i64 (ix D k)) := by rw [h.bd.cell, dC_at _ (by rw [h.len]; exact hk)]
end
theorem Pl.start {w : World} {g b : Nat} {x : Ix} (h : Px w g b x) (r s : Int) {D : List Int} (hD : D.length = 7) : Pl w (((w.alloc (.cells #[.int .i64 r, .int .i64 s] 26)).alloc (.cells (dC zero7) 32)).alloc (.cells (dC D) 32)) g b x r s D := by
  have hb := kept_alloc (kept_alloc (kept_alloc (kept_refl w) (.cells #[.int .i64 r, .int .i64 s] 26)) (.cells (dC zero7) 32)) (.cells (dC D) 32)
  refine ⟨hb, h.below hb, ((Row.new w _ _).alloc _).alloc _, ?_, ?_, hD⟩
  · have h1 := (Row.new (w.alloc (.cells #[.int .i64 r, .int .i64 s] 26)) 32 (dC zero7)).alloc (.cells (dC D) 32)
    have hs : (w.alloc (.cells #[.int .i64 r, .int .i64 s] 26)).heap.size = w.heap.size + 1 := by simp
    rwa [hs] at h1
  · have h1 := Row.new ((w.alloc (.cells #[.int .i64 r, .int .i64 s] 26)).alloc (.cells (dC zero7) 32)) 32 (dC D)
    have hs : ((w.alloc (.cells #[.int .i64 r, .int .i64 s] 26)).alloc (.cells (dC zero7) 32)).heap.size = w.heap.size + 2 := by simp
    rwa [hs] at h1
set_option maxHeartbeats 4000000 in
theorem least_any (g b : Nat) (x : Ix) (r s : Int) (w : World) (h : Px w g b x) :
    Calls Try.prog 27 #[.pointer (some ⟨g, 0, none⟩), .agg #[.int .i64 r, .int .i64 s]] w (fun e w' => e = .returned (.agg (dC (leastL x.d r s))) ∧ Below w.heap.size w w') := by
  obtain ⟨xk, xd⟩ := x
  obtain ⟨d0, d1, d2, d3, d4, d5, d6, rfl⟩ := len7 h.d7
  have HP := hide (Pl.start h r s (D := [d0, d1, d2, d3, d4, d5, d6]) rfl)
  have HR2 := hide (show Row ((w.alloc (.cells #[.int .i64 r, .int .i64 s] 26)).alloc (.cells (dC zero7) 32)) g 62 (pC b [d0, d1, d2, d3, d4, d5, d6]) from (h.row.alloc _).alloc _)
  have HRI := hide (fun w => right_any r s w)
  obtain ⟨tr, htr⟩ : ∃ t, rightI r s = t := ⟨_, rfl⟩
  rw [htr] at HRI
  have HTR := hide htr
  clear h htr
  obtain ⟨AN, hAN⟩ : ∃ A, dC (leastL [d0, d1, d2, d3, d4, d5, d6] r s) = A := ⟨_, rfl⟩
  rw [hAN]
  have HAN := hide hAN
  clear hAN
  go_enter Try.func27, Try.ntmps27
  go_upto_region 1 with (fail)
  have c1 : ((w.alloc (.cells #[.int .i64 r, .int .i64 s] 26)).alloc (.cells #[Value.int .i64 0, Value.int .i64 0, Value.int .i64 0, Value.int .i64 0, Value.int .i64 0, Value.int .i64 0, Value.int .i64 0] 32)).cell? ⟨g, 1, none⟩ = some (.int .i64 d0) := HR2.out.cell 1
  have c2 : ((w.alloc (.cells #[.int .i64 r, .int .i64 s] 26)).alloc (.cells #[Value.int .i64 0, Value.int .i64 0, Value.int .i64 0, Value.int .i64 0, Value.int .i64 0, Value.int .i64 0, Value.int .i64 0] 32)).cell? ⟨g, 2, none⟩ = some (.int .i64 d1) := HR2.out.cell 2
  have c3 : ((w.alloc (.cells #[.int .i64 r, .int .i64 s] 26)).alloc (.cells #[Value.int .i64 0, Value.int .i64 0, Value.int .i64 0, Value.int .i64 0, Value.int .i64 0, Value.int .i64 0, Value.int .i64 0] 32)).cell? ⟨g, 3, none⟩ = some (.int .i64 d2) := HR2.out.cell 3
  have c4 : ((w.alloc (.cells #[.int .i64 r, .int .i64 s] 26)).alloc (.cells #[Value.int .i64 0, Value.int .i64 0, Value.int .i64 0, Value.int .i64 0, Value.int .i64 0, Value.int .i64 0, Value.int .i64 0] 32)).cell? ⟨g, 4, none⟩ = some (.int .i64 d3) := HR2.out.cell 4
  have c5 : ((w.alloc (.cells #[.int .i64 r, .int .i64 s] 26)).alloc (.cells #[Value.int .i64 0, Value.int .i64 0, Value.int .i64 0, Value.int .i64 0, Value.int .i64 0, Value.int .i64 0, Value.int .i64 0] 32)).cell? ⟨g, 5, none⟩ = some (.int .i64 d4) := HR2.out.cell 5
  have c6 : ((w.alloc (.cells #[.int .i64 r, .int .i64 s] 26)).alloc (.cells #[Value.int .i64 0, Value.int .i64 0, Value.int .i64 0, Value.int .i64 0, Value.int .i64 0, Value.int .i64 0, Value.int .i64 0] 32)).cell? ⟨g, 6, none⟩ = some (.int .i64 d5) := HR2.out.cell 6
  have c7 : ((w.alloc (.cells #[.int .i64 r, .int .i64 s] 26)).alloc (.cells #[Value.int .i64 0, Value.int .i64 0, Value.int .i64 0, Value.int .i64 0, Value.int .i64 0, Value.int .i64 0, Value.int .i64 0] 32)).cell? ⟨g, 7, none⟩ = some (.int .i64 d6) := HR2.out.cell 7
  go_upto_region 2 with (fail)
  clear c1 c2 c3 c4 c5 c6 c7 HR2
  replace HP : Hid (Pl w (((w.alloc (.cells #[.int .i64 r, .int .i64 s] 26)).alloc (.cells #[Value.int .i64 0, Value.int .i64 0, Value.int .i64 0, Value.int .i64 0, Value.int .i64 0, Value.int .i64 0, Value.int .i64 0] 32)).alloc (.cells #[.int .i64 d0, .int .i64 d1, .int .i64 d2, .int .i64 d3, .int .i64 d4, .int .i64 d5, .int .i64 d6] 32)) g b ⟨xk, [d0, d1, d2, d3, d4, d5, d6]⟩ r s (genk (ownZ [d0, d1, d2, d3, d4, d5, d6] r) [d0, d1, d2, d3, d4, d5, d6] 0)) := hide (by rw [genk_0 _ rfl]; exact HP.out)
  generalize ((w.alloc (.cells #[.int .i64 r, .int .i64 s] 26)).alloc (.cells #[Value.int .i64 0, Value.int .i64 0, Value.int .i64 0, Value.int .i64 0, Value.int .i64 0, Value.int .i64 0, Value.int .i64 0] 32)).alloc (.cells #[.int .i64 d0, .int .i64 d1, .int .i64 d2, .int .i64 d3, .int .i64 d4, .int .i64 d5, .int .i64 d6] 32) = w1 at HP ⊢
  generalize (Value.agg #[.int .i64 d0, .int .i64 d1, .int .i64 d2, .int .i64 d3, .int .i64 d4, .int .i64 d5, .int .i64 d6]) = vd
  obtain ⟨d, hd⟩ : ∃ d, [d0, d1, d2, d3, d4, d5, d6] = d := ⟨_, rfl⟩
  rw [hd] at HP HAN
  clear hd
  go_wp2
  go_loopw [11] (fun i wr => ∃ k : Nat, k ≤ 7 ∧ i = .int .i64 k ∧ Hid (Pl w wr g b ⟨xk, d⟩ r s (genk (ownZ d r) d k))) (fun i _ => 7 - (intOf i).toNat)
  case atStart => exact ⟨0, by omega, rfl, HP⟩
  case round =>
    clear HP
    obtain ⟨k, hk, rfl, HR⟩ := hrel
    have y0 : wr.cell? ⟨w.heap.size, 0, none⟩ = some (.int .i64 r) := HR.out.bi.cell 0
    by_cases hk7 : k < 7
    · have hk7i : (k : Int) < 7 := by omega
      have hk0i : (0 : Int) ≤ (k : Int) := by omega
      by_cases hkr : (k : Int) = r
      · have HKR := hide hkr
        subst hkr
        have f1 : wr.cell? ⟨w.heap.size + 1 + 1, k, none⟩ = some (.int .i64 (ix (genk (ownZ d k) d k) k)) := HR.out.at_ hk7
        have g1 : wr.frozen? ⟨w.heap.size + 1 + 1, k, none⟩ = false := HR.out.bd.free k
        have HN := hide (show Pl w (wr.setCell ⟨w.heap.size + 1 + 1, k, none⟩ (.int .i64 0)) g b ⟨xk, d⟩ k s (genk (ownZ d k) d (k + 1)) from by
          have h := HR.out.put k 0
          have e : (genk (ownZ d k) d k).set k 0 = genk (ownZ d k) d (k + 1) := by
            rw [← genk_step]
            unfold ownZ
            rw [if_pos rfl]
          rwa [e] at h)
        clear HR
        go_wp2
        go_roundw
        case rel => exact ⟨k + 1, by omega, by go_num, HN⟩
        case measure => simp [intOf]; omega
      · have HKR := hide hkr
        have HN := hide (show Pl w wr g b ⟨xk, d⟩ r s (genk (ownZ d r) d (k + 1)) from by
          have e : genk (ownZ d r) d k = genk (ownZ d r) d (k + 1) := by
            rw [← genk_step]
            unfold ownZ
            rw [if_neg HKR.out]
            refine (set_same ?_).symm
            have h1 := genk_at (ownZ d r) d hk7
            have h2 := genk_len (ownZ d r) d k
            rw [ix_lt _ (by rw [h2]; exact hk7)] at h1
            have h3 := List.getElem?_eq_getElem (l := genk (ownZ d r) d k) (i := k) (by rw [h2]; exact hk7)
            exact h3.trans (congrArg some h1)
          exact e ▸ HR.out)
        clear HR
        go_wp2
        go_roundw
        case rel => exact ⟨k + 1, by omega, by go_num, HN⟩
        case measure => simp [intOf]; omega
    · obtain rfl : k = 7 := by omega
      have HZ := hide (show Pl w wr g b ⟨xk, d⟩ r s ((List.range 7).map (ownZ d r)) from genk_7 (ownZ d r) d ▸ HR.out)
      clear HR
      have y1 : wr.cell? ⟨w.heap.size, 1, none⟩ = some (.int .i64 s) := HZ.out.bi.cell 1
      cases tr
      case false =>
        go_upto_region 10 with (first | (go_at_call 22; with_reducible refine (HRI.out _).mono ?_; rintro ea wa ⟨rfl, HBA⟩))
        have HO := hide (show Pl w wa g b ⟨xk, d⟩ r s (leastL d r s) from least_not d HTR.out ▸ HZ.out.below HBA)
        clear HZ HRI HBA y0 y1
        obtain ⟨L, hL⟩ : ∃ L, leastL d r s = L := ⟨_, rfl⟩
        have HLL := hide (show L.length = 7 from hL ▸ leastL_len d r s)
        have HEQ := hide hL
        rw [hL] at HO
        clear hL
        have HROW := hide HO.out.bd
        have HRES := hide HO.out.br
        have HLOW := hide HO.out.low
        clear HO
        obtain ⟨z0, z1, z2, z3, z4, z5, z6, rfl⟩ := len7 HLL.out
        obtain ⟨e0, e1, e2, e3, e4, e5, e6⟩ := HROW.out.seven
        obtain ⟨k0, k1, k2, k3, k4, k5, k6⟩ := HRES.out.seven
        replace e0 : wa.cell? ⟨w.heap.size + 1 + 1, 0, none⟩ = some (.int .i64 z0) := e0
        replace k0 : wa.cell? ⟨w.heap.size + 1, 0, none⟩ = some (.int .i64 0) := k0
        replace e1 : wa.cell? ⟨w.heap.size + 1 + 1, 1, none⟩ = some (.int .i64 z1) := e1
        replace k1 : wa.cell? ⟨w.heap.size + 1, 1, none⟩ = some (.int .i64 0) := k1
        replace e2 : wa.cell? ⟨w.heap.size + 1 + 1, 2, none⟩ = some (.int .i64 z2) := e2
        replace k2 : wa.cell? ⟨w.heap.size + 1, 2, none⟩ = some (.int .i64 0) := k2
        replace e3 : wa.cell? ⟨w.heap.size + 1 + 1, 3, none⟩ = some (.int .i64 z3) := e3
        replace k3 : wa.cell? ⟨w.heap.size + 1, 3, none⟩ = some (.int .i64 0) := k3
        replace e4 : wa.cell? ⟨w.heap.size + 1 + 1, 4, none⟩ = some (.int .i64 z4) := e4
        replace k4 : wa.cell? ⟨w.heap.size + 1, 4, none⟩ = some (.int .i64 0) := k4
        replace e5 : wa.cell? ⟨w.heap.size + 1 + 1, 5, none⟩ = some (.int .i64 z5) := e5
        replace k5 : wa.cell? ⟨w.heap.size + 1, 5, none⟩ = some (.int .i64 0) := k5
        replace e6 : wa.cell? ⟨w.heap.size + 1 + 1, 6, none⟩ = some (.int .i64 z6) := e6
        replace k6 : wa.cell? ⟨w.heap.size + 1, 6, none⟩ = some (.int .i64 0) := k6
        obtain ⟨g0, g1, g2, g3, g4, g5, g6⟩ := HRES.out.free7
        go_wp2
        exact bodyPost_ret (results_deps Try.results27 rfl (row_seven HRES.out rfl _ _ _ _ _ _ _) rfl) rfl ⟨by rw [← HAN.out, HEQ.out]; rfl, below_seven HLOW.out (by omega) _ _ _ _ _ _ _⟩
      case true =>
        obtain ⟨r0, r7, s1, sm⟩ := rightI_is HTR.out
        obtain ⟨k, rfl⟩ : ∃ k : Nat, r = k := ⟨r.toNat, by omega⟩
        have hk7 : k < 7 := by omega
        have hk7i : (k : Int) < 7 := by omega
        have hk0i : (0 : Int) ≤ (k : Int) := by omega
        go_upto_region 9 with (first | (go_at_call 22; with_reducible refine (HRI.out _).mono ?_; rintro ea wa ⟨rfl, HBA⟩))
        have HA := hide (HZ.out.below HBA)
        clear HZ HRI HBA y0 y1
        have y0 : wa.cell? ⟨w.heap.size, 0, none⟩ = some (.int .i64 (k : Int)) := HA.out.bi.cell 0
        have y1 : wa.cell? ⟨w.heap.size, 1, none⟩ = some (.int .i64 s) := HA.out.bi.cell 1
        have f1 : wa.cell? ⟨w.heap.size + 1 + 1, k, none⟩ = some (.int .i64 (ix ((List.range 7).map (ownZ d k)) k)) := HA.out.at_ hk7
        have g1 : wa.frozen? ⟨w.heap.size + 1 + 1, k, none⟩ = false := HA.out.bd.free k
        have HO := hide (show Pl w (wa.setCell ⟨w.heap.size + 1 + 1, k, none⟩ (.int .i64 (s - 1))) g b ⟨xk, d⟩ k s (leastL d k s) from least_yes d HTR.out ▸ HA.out.put k (s - 1))
        clear HA
        go_upto_region 10 with (fail)
        clear f1 g1 y0 y1
        generalize (wa.setCell ⟨w.heap.size + 1 + 1, k, none⟩ (.int .i64 (s - 1))) = wa at HO ⊢
        obtain ⟨L, hL⟩ : ∃ L, leastL d k s = L := ⟨_, rfl⟩
        have HLL := hide (show L.length = 7 from hL ▸ leastL_len d k s)
        have HEQ := hide hL
        rw [hL] at HO
        clear hL
        have HROW := hide HO.out.bd
        have HRES := hide HO.out.br
        have HLOW := hide HO.out.low
        clear HO
        obtain ⟨z0, z1, z2, z3, z4, z5, z6, rfl⟩ := len7 HLL.out
        obtain ⟨e0, e1, e2, e3, e4, e5, e6⟩ := HROW.out.seven
        obtain ⟨k0, k1, k2, k3, k4, k5, k6⟩ := HRES.out.seven
        replace e0 : wa.cell? ⟨w.heap.size + 1 + 1, 0, none⟩ = some (.int .i64 z0) := e0
        replace k0 : wa.cell? ⟨w.heap.size + 1, 0, none⟩ = some (.int .i64 0) := k0
        replace e1 : wa.cell? ⟨w.heap.size + 1 + 1, 1, none⟩ = some (.int .i64 z1) := e1
        replace k1 : wa.cell? ⟨w.heap.size + 1, 1, none⟩ = some (.int .i64 0) := k1
        replace e2 : wa.cell? ⟨w.heap.size + 1 + 1, 2, none⟩ = some (.int .i64 z2) := e2
        replace k2 : wa.cell? ⟨w.heap.size + 1, 2, none⟩ = some (.int .i64 0) := k2
        replace e3 : wa.cell? ⟨w.heap.size + 1 + 1, 3, none⟩ = some (.int .i64 z3) := e3
        replace k3 : wa.cell? ⟨w.heap.size + 1, 3, none⟩ = some (.int .i64 0) := k3
        replace e4 : wa.cell? ⟨w.heap.size + 1 + 1, 4, none⟩ = some (.int .i64 z4) := e4
        replace k4 : wa.cell? ⟨w.heap.size + 1, 4, none⟩ = some (.int .i64 0) := k4
        replace e5 : wa.cell? ⟨w.heap.size + 1 + 1, 5, none⟩ = some (.int .i64 z5) := e5
        replace k5 : wa.cell? ⟨w.heap.size + 1, 5, none⟩ = some (.int .i64 0) := k5
        replace e6 : wa.cell? ⟨w.heap.size + 1 + 1, 6, none⟩ = some (.int .i64 z6) := e6
        replace k6 : wa.cell? ⟨w.heap.size + 1, 6, none⟩ = some (.int .i64 0) := k6
        obtain ⟨g0, g1, g2, g3, g4, g5, g6⟩ := HRES.out.free7
        go_wp2
        exact bodyPost_ret (results_deps Try.results27 rfl (row_seven HRES.out rfl _ _ _ _ _ _ _) rfl) rfl ⟨by rw [← HAN.out, HEQ.out]; rfl, below_seven HLOW.out (by omega) _ _ _ _ _ _ _⟩
end Go.Proofs.Ytfihcgimgngmhaa
/- What the laws of package interf lean on: at, of, attr, light. Conditions: the sizes that a slice, a text has. -/
namespace Go.Proofs.Ytfihcgimgngmhaa
set_option maxRecDepth 100000
open Go.RowKit
theorem results_inst {fn : Func} {p : Tmp} {tmps : Array Value} {w : World} {g : Nat} {t : TypeId} {v0 v1 : Value} (hf : fn.results = #[.cell p 26]) (hp : tmps.getD p undef = .pointer (some ⟨g, 0, none⟩)) (hr : Row w g t #[v0, v1]) :
    (results fn tmps).run Try.prog w = .ok (.agg #[v0, v1]) w :=
  results_cell_row hf tmps w g t _ _ _ hp hr Try.underlying26 rfl (by kernel_rfl)
theorem results_cmd {fn : Func} {p : Tmp} {tmps : Array Value} {w : World} {g : Nat} {t : TypeId} {v0 v1 v2 v3 v4 v5 v6 : Value} (hf : fn.results = #[.cell p 29]) (hp : tmps.getD p undef = .pointer (some ⟨g, 0, none⟩)) (hr : Row w g t #[v0, v1, v2, v3, v4, v5, v6]) :
    (results fn tmps).run Try.prog w = .ok (.agg #[v0, v1, v2, v3, v4, v5, v6]) w :=
  results_cell_row hf tmps w g t _ _ _ hp hr Try.underlying29 rfl (by kernel_rfl)
theorem at_any (r s : Int) (w : World) : Calls Try.prog 10 #[.int .i64 r, .int .i64 s] w fun e w' => e = .returned (.agg #[.int .i64 r, .int .i64 s]) ∧ Below w.heap.size w w' := by
  have R := hide (Row.new w 26 #[.int .i64 0, .int .i64 0])
  have HB := hide (kept_alloc (kept_refl w) (.cells #[.int .i64 0, .int .i64 0] 26))
  go_enter Try.func10, Try.ntmps10
  go_upto_region 1 with (fail)
  generalize w.alloc (.cells #[.int .i64 0, .int .i64 0] 26) = w1 at R HB ⊢
  have c0 : w1.cell? ⟨w.heap.size, 0, none⟩ = some (.int .i64 0) := R.out.cell 0
  have c1 : w1.cell? ⟨w.heap.size, 1, none⟩ = some (.int .i64 0) := R.out.cell 1
  have f0 := R.out.free 0
  have f1 := R.out.free 1
  go_wp2
  have z := (R.out.put 0 (.int .i64 r)).put 1 (.int .i64 s)
  exact bodyPost_ret (results_inst Try.results10 rfl z) rfl ⟨rfl, (HB.out.setCell (Nat.le_refl _) _).setCell (Nat.le_refl _) _⟩
/-- A command of a client. -/
def ofC (k c : Int) (key : ByteArray) : Cm := ⟨k, c, 1, key, ⟨#[]⟩, ⟨#[]⟩, ⟨#[]⟩⟩
theorem lof_any (k c : Int) (key : ByteArray) (w : World) : Calls Try.prog 11 #[.int .i64 k, .int .i64 c, .string key] w fun e w' => e = .returned (.agg #[.int .i64 k, .int .i64 c, .int .i64 1, .string key, .string ⟨#[]⟩, .string ⟨#[]⟩, .string ⟨#[]⟩]) ∧ Below w.heap.size w w' := by
  have R := hide (Row.new w 29 #[.int .i64 0, .int .i64 0, .int .i64 0, .string ⟨#[]⟩, .string ⟨#[]⟩, .string ⟨#[]⟩, .string ⟨#[]⟩])
  have HB := hide (kept_alloc (kept_refl w) (.cells #[.int .i64 0, .int .i64 0, .int .i64 0, .string ⟨#[]⟩, .string ⟨#[]⟩, .string ⟨#[]⟩, .string ⟨#[]⟩] 29))
  go_enter Try.func11, Try.ntmps11
  go_upto_region 1 with (fail)
  generalize w.alloc (.cells #[.int .i64 0, .int .i64 0, .int .i64 0, .string ⟨#[]⟩, .string ⟨#[]⟩, .string ⟨#[]⟩, .string ⟨#[]⟩] 29) = w1 at R HB ⊢
  have c0 : w1.cell? ⟨w.heap.size, 0, none⟩ = some (.int .i64 0) := R.out.cell 0
  have c1 : w1.cell? ⟨w.heap.size, 1, none⟩ = some (.int .i64 0) := R.out.cell 1
  have c2 : w1.cell? ⟨w.heap.size, 2, none⟩ = some (.int .i64 0) := R.out.cell 2
  have c3 : w1.cell? ⟨w.heap.size, 3, none⟩ = some (.string ⟨#[]⟩) := R.out.cell 3
  have c4 : w1.cell? ⟨w.heap.size, 4, none⟩ = some (.string ⟨#[]⟩) := R.out.cell 4
  have c5 : w1.cell? ⟨w.heap.size, 5, none⟩ = some (.string ⟨#[]⟩) := R.out.cell 5
  have c6 : w1.cell? ⟨w.heap.size, 6, none⟩ = some (.string ⟨#[]⟩) := R.out.cell 6
  have f0 := R.out.free 0
  have f1 := R.out.free 1
  have f2 := R.out.free 2
  have f3 := R.out.free 3
  have f4 := R.out.free 4
  have f5 := R.out.free 5
  have f6 := R.out.free 6
  go_wp2
  have z := ((((((R.out.put 0 (.int .i64 k)).put 1 (.int .i64 c)).put 2 (.int .i64 1)).put 3 (.string key)).put 4 (.string ⟨#[]⟩)).put 5 (.string ⟨#[]⟩)).put 6 (.string ⟨#[]⟩)
  exact bodyPost_ret (results_cmd Try.results11 rfl z) rfl ⟨rfl, below_seven HB.out (Nat.le_refl _) _ _ _ _ _ _ _⟩
def lightC (c : Cm) : Bool := decide ((c.key.size : Int) + c.en.size + c.old.size + c.val.size < 500)
theorem light_any (c : Cm) (w : World) (h1 : c.key.size ≤ 140737488355328) (h2 : c.en.size ≤ 140737488355328) (h3 : c.old.size ≤ 140737488355328) (h4 : c.val.size ≤ 140737488355328) :
    Calls Try.prog 16 #[.agg #[.int .i64 c.k, .int .i64 c.c, .int .i64 c.q, .string c.key, .string c.en, .string c.old, .string c.val]] w fun e w' => e = .returned (.bool (lightC c)) ∧ Below w.heap.size w w' := by
  obtain ⟨ck, cc, cq, key, en, old, val⟩ := c
  simp only at h1 h2 h3 h4 ⊢
  have HB := hide (kept_alloc (kept_refl w) (.cells #[.int .i64 ck, .int .i64 cc, .int .i64 cq, .string key, .string en, .string old, .string val] 29))
  unfold lightC
  simp only
  obtain ⟨t, ht⟩ : ∃ t, decide ((key.size : Int) + en.size + old.size + val.size < 500) = t := ⟨_, rfl⟩
  rw [ht]
  go_enter Try.func16, Try.ntmps16
  go_wp2
  go_ret
  exact ⟨rfl, HB.out⟩
def padL (l : List Int) (k : Nat) : List Int := genk (fun i => ix l i) zero7 k
structure Pj (w wr : World) (p : Nat) (l : List Int) (sq : Int) (D : List Int) : Prop where
  low : Below w.heap.size w wr
  src : Row wr p 3 (dC l)
  lt : p < w.heap.size
  br : Row wr w.heap.size 34 (cA zero8)
  ba : Row wr (w.heap.size + 1) 34 (cA (sq :: D))
  len : D.length = 7
theorem Pj.start {w : World} {p : Nat} {l : List Int} (h : Row w p 3 (dC l)) (sq : Int) : Pj w ((w.alloc (.cells (cA zero8) 34)).alloc (.cells (cA (sq :: zero7)) 34)) p l sq zero7 := by
  have hb := kept_alloc (kept_alloc (kept_refl w) (.cells (cA zero8) 34)) (.cells (cA (sq :: zero7)) 34)
  refine ⟨hb, h.below hb h.lt, h.lt, (Row.new w _ _).alloc _, ?_, rfl⟩
  have h1 := Row.new (w.alloc (.cells (cA zero8) 34)) 34 (cA (sq :: zero7))
  have hs : (w.alloc (.cells (cA zero8) 34)).heap.size = w.heap.size + 1 := by simp
  rwa [hs] at h1
section
variable {w wr wx : World} {p : Nat} {l D : List Int} {sq : Int}
theorem Pj.below (h : Pj w wr p l sq D) (hb : Below wr.heap.size wr wx) : Pj w wx p l sq D := ⟨kept_trans h.low hb, h.src.below hb h.src.lt, h.lt, h.br.below hb h.br.lt, h.ba.below hb h.ba.lt, h.len⟩
theorem Pj.put (h : Pj w wr p l sq D) (k : Nat) (v : Int) : Pj w (wr.setCell ⟨w.heap.size + 1, 1 + k, none⟩ (.int .i64 v)) p l sq (D.set k v) := by
  have hg := grown_put (grown_refl wr (some (w.heap.size + 1))) (1 + k) (.int .i64 v)
  have hl := h.lt
  exact ⟨h.low.setCell (by show w.heap.size ≤ w.heap.size + 1; omega) _, h.src.grown hg (by simp; omega), h.lt, h.br.grown hg (by simp), by rw [← cA_set]; exact h.ba.put _ _, by rw [List.length_set]; exact h.len⟩
end
set_option maxHeartbeats 4000000 in
theorem attr_any (p : Nat) (n : Nat) (l : List Int) (sq : Int) (w : World) (h : Row w p 3 (dC l)) (hl : l.length = n) (h7 : n ≤ 7) :
    Calls Try.prog 14 #[.int .i64 sq, .slice (some ⟨p, 0, none⟩) n n] w fun e w' => e = .returned (.agg (cA (sq :: padL l n))) ∧ Below w.heap.size w w' := by
  have HP := hide (show Pj w ((w.alloc (.cells (cA zero8) 34)).alloc (.cells (cA (sq :: zero7)) 34)) p l sq (padL l 0) by unfold padL; rw [genk_0 _ rfl]; exact Pj.start h sq)
  have HL := hide hl
  clear h hl
  go_enter Try.func14, Try.ntmps14
  go_upto_region 2 with (fail)
  replace HP : Hid (Pj w ((w.alloc (.cells #[.int .i64 0, .int .i64 0, .int .i64 0, .int .i64 0, .int .i64 0, .int .i64 0, .int .i64 0, .int .i64 0] 34)).alloc (.cells #[.int .i64 sq, .int .i64 0, .int .i64 0, .int .i64 0, .int .i64 0, .int .i64 0, .int .i64 0, .int .i64 0] 34)) p l sq (padL l 0)) := HP
  generalize (w.alloc (.cells #[.int .i64 0, .int .i64 0, .int .i64 0, .int .i64 0, .int .i64 0, .int .i64 0, .int .i64 0, .int .i64 0] 34)).alloc (.cells #[.int .i64 sq, .int .i64 0, .int .i64 0, .int .i64 0, .int .i64 0, .int .i64 0, .int .i64 0, .int .i64 0] 34) = w1 at HP ⊢
  go_wp2
  go_loopw [6] (fun i wr => ∃ k : Nat, k ≤ n ∧ i = .int .i64 k ∧ Hid (Pj w wr p l sq (padL l k))) (fun i _ => n - (intOf i).toNat)
  case atStart => exact ⟨0, by omega, rfl, HP⟩
  case round =>
    clear HP
    obtain ⟨k, hk, rfl, HR⟩ := hrel
    by_cases hkn : k < n
    · have hk7 : k < 7 := by omega
      have hk7i : (k : Int) < 7 := by omega
      have hkni : (k : Int) < (n : Int) := by omega
      have hk0i : (0 : Int) ≤ (k : Int) := by omega
      have x0 : wr.cell? ⟨p, k, none⟩ = some (.int .i64 (ix l k)) := by rw [HR.out.src.cell, dC_at _ (by rw [HL.out]; exact hkn)]
      have f1 : wr.cell? ⟨w.heap.size + 1, 1 + k, none⟩ = some (.int .i64 (ix (padL l k) k)) := by
        have := row_cA HR.out.ba (1 + k) (by rw [List.length_cons, HR.out.len]; omega)
        rwa [ix_cons] at this
      have g1 : wr.frozen? ⟨w.heap.size + 1, 1 + k, none⟩ = false := HR.out.ba.free (1 + k)
      have OK := hide (show Pj w (wr.setCell ⟨w.heap.size + 1, 1 + k, none⟩ (.int .i64 (ix l k))) p l sq (padL l (k + 1)) from by
        have h := HR.out.put k (ix l k)
        rwa [show (padL l k).set k (ix l k) = padL l (k + 1) from genk_step (fun i => ix l i) zero7 k] at h)
      clear HR
      go_wp2
      go_roundw
      case rel => exact ⟨k + 1, by omega, by go_num, OK⟩
      case measure => simp [intOf]; omega
    · obtain rfl : k = n := by omega
      obtain ⟨M, hM⟩ : ∃ M, sq :: padL l k = M := ⟨_, rfl⟩
      have hM8 : M.length = 8 := by rw [← hM, List.length_cons, HR.out.len]
      have HROW := hide (show Row wr (w.heap.size + 1) 34 (cA M) from hM ▸ HR.out.ba)
      have HRES := hide (HR.out.br)
      have HLOW := hide (HR.out.low)
      have HMQ := hide hM
      clear HR hM
      obtain ⟨z0, z1, z2, z3, z4, z5, z6, z7, rfl⟩ := len8 hM8
      obtain ⟨e0, e1, e2, e3, e4, e5, e6, e7⟩ := HROW.out.eight
      obtain ⟨k0, k1, k2, k3, k4, k5, k6, k7⟩ := HRES.out.eight
      replace e0 : wr.cell? ⟨w.heap.size + 1, 0, none⟩ = some (.int .i64 z0) := e0
      replace k0 : wr.cell? ⟨w.heap.size, 0, none⟩ = some (.int .i64 0) := k0
      replace e1 : wr.cell? ⟨w.heap.size + 1, 1, none⟩ = some (.int .i64 z1) := e1
      replace k1 : wr.cell? ⟨w.heap.size, 1, none⟩ = some (.int .i64 0) := k1
      replace e2 : wr.cell? ⟨w.heap.size + 1, 2, none⟩ = some (.int .i64 z2) := e2
      replace k2 : wr.cell? ⟨w.heap.size, 2, none⟩ = some (.int .i64 0) := k2
      replace e3 : wr.cell? ⟨w.heap.size + 1, 3, none⟩ = some (.int .i64 z3) := e3
      replace k3 : wr.cell? ⟨w.heap.size, 3, none⟩ = some (.int .i64 0) := k3
      replace e4 : wr.cell? ⟨w.heap.size + 1, 4, none⟩ = some (.int .i64 z4) := e4
      replace k4 : wr.cell? ⟨w.heap.size, 4, none⟩ = some (.int .i64 0) := k4
      replace e5 : wr.cell? ⟨w.heap.size + 1, 5, none⟩ = some (.int .i64 z5) := e5
      replace k5 : wr.cell? ⟨w.heap.size, 5, none⟩ = some (.int .i64 0) := k5
      replace e6 : wr.cell? ⟨w.heap.size + 1, 6, none⟩ = some (.int .i64 z6) := e6
      replace k6 : wr.cell? ⟨w.heap.size, 6, none⟩ = some (.int .i64 0) := k6
      replace e7 : wr.cell? ⟨w.heap.size + 1, 7, none⟩ = some (.int .i64 z7) := e7
      replace k7 : wr.cell? ⟨w.heap.size, 7, none⟩ = some (.int .i64 0) := k7
      obtain ⟨g0, g1, g2, g3, g4, g5, g6, g7⟩ := HRES.out.free8
      clear hM8
      go_wp2
      exact bodyPost_ret (results_at8 Try.results14 rfl (row_eight HRES.out _ _ _ _ _ _ _ _)) rfl ⟨by rw [HMQ.out]; rfl, below_eight HLOW.out (Nat.le_refl _) _ _ _ _ _ _ _ _⟩
end Go.Proofs.Ytfihcgimgngmhaa
