/- Both Indexes, told the same: what each call leaves of them. No condition: no walk. -/
import Derived.Test.YtfihcgimgngmhaaVb
import Derived.Test.YtfihcgimgngmhaaRun
import Derived.Test.YtfihcgimgngmhaaRn
import Derived.Test.YtfihcgimgngmhaaRc
import Derived.Test.YtfihcgimgngmhaaVf
import Derived.Test.YtfihcgimgngmhaaRows
import Derived.Test.YtfihcgimgngmhaaVa
import Derived.WalkKit
import Derived.WalkSpells
import Derived.WalkLawsBesides
namespace Go.Proofs.Ytfihcgimgngmhaa
set_option maxRecDepth 100000
open Go.RowKit Go.Maps
theorem mp_rw {w : World} {b base sz : Nat} {l : Ents} {e : TypeId} {v : Value} {xs : List (List Value)} (h : Mp w b l) (k : Rw base e sz w v xs) : v.ownBlock ≠ some b := fun hv => by
  unfold Rw at k
  rcases k.2 with ⟨rfl, _⟩ | ⟨a, cap, cur, rfl, _, hh, _⟩
  · cases hv
  · simp [Value.ownBlock] at hv
    subst hv
    obtain ⟨D, ⟨es, c, hb, _⟩, _⟩ := h.map
    rw [hh] at hb
    cases hb
theorem kn_small {x : Ix} (h : Kn x) : ∀ e, e ∈ x.k → e.c.key.size ≤ 140737488355328 := fun e he => by
  obtain ⟨_, _, hc, _, _⟩ := may_iff.1 (h.ok e he)
  unfold rightC at hc
  by_cases h0 : e.c.k = 0
  · rw [if_pos h0, sameC_iff] at hc
    rw [hc]
    exact Nat.zero_le _
  · rw [if_neg h0, Bool.and_eq_true] at hc
    have h1 := hc.2
    unfold boundC at h1
    simp only [Bool.and_eq_true, decide_eq_true_eq] at h1
    omega
theorem note_len (x : Ix) (r s : Int) (c : Cm) (q : Int) : (noteX x r s c q).k.length ≤ x.k.length + 1 := by
  unfold noteX
  split
  · show (putK x.k r s c q).length ≤ _
    rw [putK_len]
    split <;> omega
  · omega
theorem prune_len (x : Ix) (u : List Int) : (pruneX x u).k.length ≤ x.k.length := List.length_filter_le _ _
theorem light_key {c : Cm} (h : lightC c = true) : c.key.size ≤ 140737488355328 := by
  unfold lightC at h
  have := of_decide_eq_true h
  omega
structure Pq (W w : World) (g b h : Nat) (vL vC vS : Value) (x : Ix) : Prop where
  rn : Rn W w g b x
  rx : Rx W.heap.size w h vL vC vS x
  hh : W.heap.size ≤ h
section
variable {W w w' : World} {g b h : Nat} {vL vC vS vL' vC' vS' : Value} {x y : Ix}
theorem Rx.high (k : Rx W.heap.size w h vL vC vS x) (hh : W.heap.size ≤ h) : ∀ j, j < W.heap.size → ¬ rxO h vL vC vS j := fun j hj e => by
  rcases e with rfl | e | e | e
  · omega
  · have := (World.ownsRow.lt k.rl _ e).1; omega
  · have := (World.ownsRow.lt k.rc _ e).1; omega
  · have := (World.ownsRow.lt k.rs _ e).1; omega
theorem Rx.off_row {t : TypeId} {cs : Array Value} {a : Nat} (k : Rx W.heap.size w h vL vC vS x) (hr : Row w a t cs) (h0 : t ≠ 46) (h1 : t ≠ 26) (h2 : t ≠ 29) (h3 : t ≠ 3) : ¬ rxO h vL vC vS a := fun e => by
  rcases e with e | e | e | e
  · exact rows_ne hr k.row h0 e
  · exact rw_off k.rl hr h1 e.symm
  · exact rw_off k.rc hr h2 e.symm
  · exact rw_off k.rs hr h3 e.symm
theorem Rx.off_mp {l : Ents} (k : Rx W.heap.size w h vL vC vS x) (hm : Mp w b l) : ¬ rxO h vL vC vS b := fun e => by
  rcases e with e | e | e | e
  · exact mp_off hm k.row e
  · exact mp_rw hm k.rl e
  · exact mp_rw hm k.rc e
  · exact mp_rw hm k.rs e
theorem Pq.below (k : Pq W w g b h vL vC vS x) (hb : Below w.heap.size w w') : Pq W w' g b h vL vC vS x := ⟨k.rn.below hb, k.rx.below hb, k.hh⟩
end
/-- Both, and a call's block. -/
structure Pk (W w : World) (g b h v : Nat) (vL vC vS : Value) (x z : Ix) (y : Ia) : Prop where
  rn : Rn W w g b x
  rx : Rx W.heap.size w h vL vC vS z
  hh : W.heap.size ≤ h
  av : Row w v 48 y.l.toArray
section
variable {W w w' : World} {g b h v : Nat} {vL vC vS vL' vC' vS' : Value} {x x' z z' : Ix} {y : Ia}
theorem Pk.below (k : Pk W w g b h v vL vC vS x z y) (hb : Below w.heap.size w w') : Pk W w' g b h v vL vC vS x z y := ⟨k.rn.below hb, k.rx.below hb, k.hh, k.av.below hb k.av.lt⟩
theorem Pk.prog {o : Nat → Prop} (k : Pk W w g b h v vL vC vS x z y) (hp : Px w' g b x') (hk : Kq o w w') (ho : ∀ j, o j → j = g ∨ j = b) : Pk W w' g b h v vL vC vS x' z y := by
  have hg := k.rn.hg
  have hb := k.rn.hb
  refine ⟨k.rn.kq hp hk (fun j hj e => by have := ho j e; omega), k.rx.keep hk (fun j hj e => ?_), k.hh, hk.row k.av (fun e => ?_)⟩
  · rcases ho j e with rfl | rfl
    · exact k.rx.off_row k.rn.px.row (by decide) (by decide) (by decide) (by decide) hj
    · exact k.rx.off_mp k.rn.px.mp hj
  · rcases ho v e with e | e
    · exact rows_ne k.av k.rn.px.row (by decide) e
    · exact mp_off k.rn.px.mp k.av e.symm
theorem Pk.ref (k : Pk W w g b h v vL vC vS x z y) (hr : Rx W.heap.size w' h vL' vC' vS' z') (hk : Kq (rxO h vL vC vS) w w') : Pk W w' g b h v vL' vC' vS' x z' y := by
  have n1 := k.rx.off_row k.rn.px.row (by decide) (by decide) (by decide) (by decide)
  have n2 := k.rx.off_mp k.rn.px.mp
  have n3 := k.rx.off_row k.av (by decide) (by decide) (by decide) (by decide)
  exact ⟨k.rn.kq (k.rn.px.kq hk n1 n2) hk (k.rx.high k.hh), hr, k.hh, hk.row k.av n3⟩
theorem Pk.pq (k : Pk W w g b h v vL vC vS x x y) : Pq W w g b h vL vC vS x := ⟨k.rn, k.rx, k.hh⟩
theorem Pk.start (k : Pq W w g b h vL vC vS x) : Pk W (w.alloc (.cells y.l.toArray 48)) g b h w.heap.size vL vC vS x x y := by
  have hb := kept_alloc (kept_refl w) (.cells y.l.toArray 48)
  exact ⟨k.rn.below hb, k.rx.below hb, k.hh, Row.new _ _ _⟩
end
section
variable {W w : World} {g b h v : Nat} {vL vC vS : Value} {x z : Ix} {y : Ia}
theorem pk_note1 (k : Pk W w g b h v vL vC vS x z y) (hl : x.k.length ≤ 1000) : Calls Try.prog 9 #[.pointer (some ⟨g, 0, none⟩), .agg #[.int .i64 y.r, .int .i64 y.s], .agg #[.int .i64 y.c.k, .int .i64 y.c.c, .int .i64 y.c.q, .string y.c.key, .string y.c.en, .string y.c.old, .string y.c.val], .int .i64 y.q] w
    fun e w' => e = .returned (.bool (mayN x.d y.r y.s y.c y.q)) ∧ Pk W w' g b h v vL vC vS (noteX x y.r y.s y.c y.q) z y :=
  (pnote_any g b x y.r y.s y.c y.q w k.rn.px hl).mono fun _ _ ⟨he, hp, hk⟩ => ⟨he, k.prog hp hk (fun _ e => .inr e)⟩
theorem pk_note2 (k : Pk W w g b h v vL vC vS x z y) (hl : z.k.length ≤ 1000) (hn : (z.k.map En.key).Nodup) : Calls Try.prog 17 #[.pointer (some ⟨h, 0, none⟩), .agg #[.int .i64 y.r, .int .i64 y.s], .agg #[.int .i64 y.c.k, .int .i64 y.c.c, .int .i64 y.c.q, .string y.c.key, .string y.c.en, .string y.c.old, .string y.c.val], .int .i64 y.q] w
    fun e w' => e = .returned (.bool (mayN z.d y.r y.s y.c y.q)) ∧ ∃ vL' vC' vS', Pk W w' g b h v vL' vC' vS' x (noteX z y.r y.s y.c y.q) y :=
  (rnote_any W.heap.size h vL vC vS z y.r y.s y.c y.q w k.rx k.rn.low.size hn hl).mono fun _ _ ⟨he, vL', vC', vS', hp, hk⟩ => ⟨he, vL', vC', vS', k.ref hp hk⟩
theorem pk_prune1 (k : Pk W w g b h v vL vC vS x z y) (hx : Kn x) : Calls Try.prog 13 #[.pointer (some ⟨g, 0, none⟩), .agg #[.int .i64 y.u0, .int .i64 y.u1, .int .i64 y.u2, .int .i64 y.u3, .int .i64 y.u4, .int .i64 y.u5, .int .i64 y.u6]] w
    fun e w' => e = .returned (.tuple #[]) ∧ Pk W w' g b h v vL vC vS (pruneX x y.u) z y :=
  (pprune_any g b x y.u0 y.u1 y.u2 y.u3 y.u4 y.u5 y.u6 w k.rn.px hx).mono fun _ _ ⟨he, hp, hk⟩ => ⟨he, k.prog hp hk (fun _ e => e)⟩
theorem pk_prune2 (k : Pk W w g b h v vL vC vS x z y) (hz : Kn z) (hl : z.k.length ≤ 1000) : Calls Try.prog 19 #[.pointer (some ⟨h, 0, none⟩), .agg #[.int .i64 y.u0, .int .i64 y.u1, .int .i64 y.u2, .int .i64 y.u3, .int .i64 y.u4, .int .i64 y.u5, .int .i64 y.u6]] w
    fun e w' => e = .returned (.tuple #[]) ∧ ∃ vL' vC' vS', Pk W w' g b h v vL' vC' vS' x (pruneX z y.u) y :=
  (rprune_any W.heap.size h vL vC vS z y.u0 y.u1 y.u2 y.u3 y.u4 y.u5 y.u6 w k.rx k.rn.low.size hz hl).mono fun _ _ ⟨he, vL', vC', vS', hp, hk⟩ => ⟨he, vL', vC', vS', k.ref hp hk⟩
/-- What attributes are answered, by both. -/
def attC (x : Ix) (y : Ia) : Array Value := cA ((attrX x y.r y.s y.c).1 :: (attrX x y.r y.s y.c).2)
theorem pk_attr1 (k : Pk W w g b h v vL vC vS x z y) (hx : Kn x) (hy : y.c.key.size ≤ 140737488355328) : Calls Try.prog 12 #[.pointer (some ⟨g, 0, none⟩), .agg #[.int .i64 y.r, .int .i64 y.s], .agg #[.int .i64 y.c.k, .int .i64 y.c.c, .int .i64 y.c.q, .string y.c.key, .string y.c.en, .string y.c.old, .string y.c.val]] w
    fun e w' => e = .returned (.agg (attC x y)) ∧ Below w.heap.size w w' := pattr_any g b x y.r y.s y.c w k.rn.px hx hy (kn_small hx)
theorem pk_attr2 (k : Pk W w g b h v vL vC vS x z y) (hz : Kn z) (hl : z.k.length ≤ 1000) (hy : y.c.key.size ≤ 140737488355328) : Calls Try.prog 18 #[.pointer (some ⟨h, 0, none⟩), .agg #[.int .i64 y.r, .int .i64 y.s], .agg #[.int .i64 y.c.k, .int .i64 y.c.c, .int .i64 y.c.q, .string y.c.key, .string y.c.en, .string y.c.old, .string y.c.val]] w
    fun e w' => e = .returned (.agg (attC z y)) ∧ Below w.heap.size w w' := rattr_any W.heap.size h vL vC vS z y.r y.s y.c w k.rx hz hl hy (kn_small hz)
theorem att_neq (x : Ix) (y : Ia) (w : World) : (binOp .neq 34 (.agg (attC x y)) (.agg (attC x y))).run Try.prog w = .ok (.bool false) w := by
  unfold attC
  have h7 := attr_len x y.r y.s y.c
  generalize attrX x y.r y.s y.c = T at h7
  obtain ⟨m, d⟩ := T
  obtain ⟨d0, d1, d2, d3, d4, d5, d6, rfl⟩ := len7 h7
  have h := neq_attr m d0 d1 d2 d3 d4 d5 d6 m d0 d1 d2 d3 d4 d5 d6 w
  rw [decide_eq_true rfl] at h
  exact h
end
end Go.Proofs.Ytfihcgimgngmhaa
/- What Within comes to. Conditions: the bounds are no negative numbers and have room. -/
namespace Go.Proofs.Ytfihcgimgngmhaa
open Go.RowKit
def withinI (n lo hi : Int) : Int := lo + n % (hi - lo + 1)
theorem withinI_bounds (n lo hi : Int) (h : lo ≤ hi) : lo ≤ withinI n lo hi ∧ withinI n lo hi ≤ hi := by
  unfold withinI
  have h0 := Int.emod_nonneg n (show hi - lo + 1 ≠ 0 by omega)
  have h1 := Int.emod_lt_of_pos n (show 0 < hi - lo + 1 by omega)
  omega
/-! ### Within -/
theorem tmod_rest (n m : Int) : n % m = n.tmod m % m := by
  have h := Int.mul_tdiv_add_tmod n m
  have e : n % m = (n.tmod m + m * n.tdiv m) % m := by rw [Int.add_comm, h]
  rw [e, Int.add_mul_emod_self_left]
theorem tmod_bounds (n m : Int) (hm : 0 < m) : -m < n.tmod m ∧ n.tmod m < m := by
  refine ⟨?_, Int.tmod_lt_of_pos n hm⟩
  have h := Int.tmod_lt_of_pos (-n) hm
  rw [Int.neg_tmod] at h
  omega
theorem tmod_neg (n m : Int) (hm : 0 < m) (h : n.tmod m < 0) : n % m = n.tmod m + m := by
  have hb := tmod_bounds n m hm
  rw [tmod_rest n m, ← Int.add_emod_right, Int.emod_eq_of_lt (by omega) (by omega)]
theorem tmod_pos (n m : Int) (hm : 0 < m) (h : 0 ≤ n.tmod m) : n % m = n.tmod m := by
  have hb := tmod_bounds n m hm
  rw [tmod_rest n m, Int.emod_eq_of_lt (by omega) (by omega)]

set_option maxHeartbeats 400000 in
theorem within_any (n lo hi : Int) (w : World) (l0 : 0 ≤ lo) (l1 : lo ≤ hi) (l2 : hi ≤ 4611686018427387904) :
    Calls Try.prog 26 #[.int .i64 n, .int .i64 lo, .int .i64 hi] w fun e w' => e = .returned (.int .i64 (withinI n lo hi)) ∧ w = w' := by
  have hb := tmod_bounds n (hi - lo + 1) (by omega)
  by_cases c : n.tmod (hi - lo + 1) < 0
  · go_enter Try.func26, Try.ntmps26
    go_wp2
    go_ret
    exact ⟨ret_int (by unfold withinI; rw [tmod_neg n _ (by omega) c]; omega), rfl⟩
  · go_enter Try.func26, Try.ntmps26
    go_wp2
    go_ret
    exact ⟨ret_int (by unfold withinI; rw [tmod_pos n _ (by omega) (by omega)]), rfl⟩
end Go.Proofs.Ytfihcgimgngmhaa
/- Calls at instances of their own, noted in any order; two Indexes side by side. No condition: no walk. -/
namespace Go.Proofs.Ytfihcgimgngmhaa
set_option maxRecDepth 100000
open Go.RowKit Go.Maps
def keyA (y : Ia) : Int × Int := (y.r, y.s)
def enA (y : Ia) : En := ⟨y.r, y.s, y.c, y.q⟩
def noteL (x : Ix) (L : List Ia) : Ix := L.foldl (fun x y => noteX x y.r y.s y.c y.q) x
def mayA (d : List Int) (y : Ia) : Bool := mayN d y.r y.s y.c y.q
theorem noteL_snoc (x : Ix) (L : List Ia) (y : Ia) : noteL x (L ++ [y]) = noteX (noteL x L) y.r y.s y.c y.q := by unfold noteL; rw [List.foldl_append]; rfl
theorem noteL_kn : ∀ (L : List Ia) {x : Ix}, Kn x → Kn (noteL x L)
  | [], _, h => h
  | y :: L, _, h => noteL_kn L (h.note y.r y.s y.c y.q)
theorem noteL_len : ∀ (L : List Ia) (x : Ix), (noteL x L).k.length ≤ x.k.length + L.length
  | [], _ => Nat.le_refl _
  | y :: L, x => by
    have h1 := noteL_len L (noteX x y.r y.s y.c y.q)
    have h2 := note_len x y.r y.s y.c y.q
    rw [List.length_cons]
    show (noteL (noteX x y.r y.s y.c y.q) L).k.length ≤ _
    omega
theorem noteL_is : ∀ (L : List Ia) (x : Ix), (L.map keyA).Nodup → (∀ y, y ∈ L → keyA y ∉ x.k.map En.key) → noteL x L = ⟨x.k ++ (L.filter (mayA x.d)).map enA, x.d⟩
  | [], x, _, _ => by show x = ⟨x.k ++ [], x.d⟩; rw [List.append_nil]
  | y :: L, x, hn, hx => by
    rw [List.map_cons, List.nodup_cons] at hn
    show noteL (noteX x y.r y.s y.c y.q) L = _
    cases hm : mayN x.d y.r y.s y.c y.q
    · rw [note_not hm, List.filter_cons_of_neg (by unfold mayA; rw [hm]; simp)]
      exact noteL_is L x hn.2 (fun z hz => hx z (List.mem_cons_of_mem _ hz))
    · have hp : putK x.k y.r y.s y.c y.q = x.k ++ [enA y] := putK_none fun e he => by
        cases ha : e.at_ y.r y.s
        · rfl
        · exact absurd (List.mem_map.2 ⟨e, he, at_iff.1 ha⟩) (hx y (List.mem_cons_self ..))
      rw [note_may hm, hp, List.filter_cons_of_pos (show mayA x.d y = true from hm), List.map_cons]
      rw [noteL_is L ⟨x.k ++ [enA y], x.d⟩ hn.2 (fun z hz hc => by
        simp only [List.map_append, List.mem_append] at hc
        rcases hc with hc | hc
        · exact hx z (List.mem_cons_of_mem _ hz) hc
        · have : keyA z = keyA y := by simp at hc; exact hc
          exact hn.1 (this ▸ List.mem_map.2 ⟨z, hz, rfl⟩))]
      simp only [List.append_assoc, List.singleton_append]
theorem noteL_zero {L : List Ia} (hn : (L.map keyA).Nodup) : noteL zeroX L = ⟨(L.filter (mayA zeroX.d)).map enA, zeroX.d⟩ := by
  rw [noteL_is L zeroX hn (fun y _ h => by cases h)]
  rfl
theorem noteL_perm {L M : List Ia} (h : L.Perm M) (hn : (L.map keyA).Nodup) (r s : Int) (c : Cm) : attrX (noteL zeroX L) r s c = attrX (noteL zeroX M) r s c ∧ (noteL zeroX L).k.length = (noteL zeroX M).k.length := by
  have hm : (M.map keyA).Nodup := (h.map keyA).nodup_iff.1 hn
  have hp : ((L.filter (mayA zeroX.d)).map enA).Perm ((M.filter (mayA zeroX.d)).map enA) := (h.filter _).map _
  rw [noteL_zero hn, noteL_zero hm]
  refine ⟨?_, hp.length_eq⟩
  unfold attrX
  simp only
  rw [hangs_perm hp]
/-! ### Turned round -/
def rotL (L : List Ia) (n : Nat) : List Ia := L.drop (n % L.length) ++ L.take (n % L.length)
theorem rot_perm (L : List Ia) (n : Nat) : L.Perm (rotL L n) := by
  unfold rotL
  have h := List.perm_append_comm (l₁ := L.take (n % L.length)) (l₂ := L.drop (n % L.length))
  rwa [List.take_append_drop] at h
theorem rot_len (L : List Ia) (n : Nat) : (rotL L n).length = L.length := (rot_perm L n).length_eq.symm
theorem rot_at {L : List Ia} {n k : Nat} (hk : k < L.length) : L[(k + n) % L.length]? = (rotL L n)[k]? := by
  have hm := Nat.mod_lt n (show 0 < L.length by omega)
  have e : (k + n) % L.length = (k + n % L.length) % L.length := by rw [Nat.add_mod_mod]
  unfold rotL
  rw [e]
  by_cases h : k + n % L.length < L.length
  · rw [Nat.mod_eq_of_lt h, List.getElem?_append_left (by rw [List.length_drop]; omega), List.getElem?_drop, Nat.add_comm]
  · rw [Nat.mod_eq_sub_mod (by omega), Nat.mod_eq_of_lt (by omega), List.getElem?_append_right (by rw [List.length_drop]; omega), List.length_drop, List.getElem?_take]
    rw [if_pos (by omega)]
    congr 1
    omega
/-! ### Fresh ones -/
def sameA (z y : Ia) : Bool := z.r == y.r && z.s == y.s
def freshB (t : Bool) (own : List Ia) (y : Ia) : Bool := t && own.all (fun z => !sameA z y)
theorem sameA_iff {z y : Ia} : sameA z y = true ↔ keyA z = keyA y := by
  unfold sameA keyA
  rw [Bool.and_eq_true, beq_iff_eq, beq_iff_eq, Prod.mk.injEq]
theorem fresh_take {t : Bool} {own : List Ia} {y z : Ia} {k : Nat} (h : own[k]? = some z) : freshB t (own.take (k + 1)) y = (freshB t (own.take k) y && !sameA z y) := by
  unfold freshB
  rw [List.take_add_one, h, List.all_append]
  simp [Bool.and_assoc]
theorem fresh_nodup {t : Bool} {own : List Ia} {y : Ia} (hn : (own.map keyA).Nodup) (h : freshB t own y = true) : ((own ++ [y]).map keyA).Nodup := by
  unfold freshB at h
  rw [Bool.and_eq_true] at h
  rw [List.map_append, List.nodup_append]
  refine ⟨hn, by simp, fun a ha b hb => ?_⟩
  obtain rfl : b = keyA y := by simpa using hb
  obtain ⟨z, hz, rfl⟩ := List.mem_map.1 ha
  have h1 := List.all_eq_true.1 h.2 z hz
  intro hk
  rw [sameA_iff.2 hk] at h1
  cases h1
theorem neq_inst (a b c d : Int) (w : World) : (binOp .neq 26 (.agg #[.int .i64 a, .int .i64 b]) (.agg #[.int .i64 c, .int .i64 d])).run Try.prog w = .ok (.bool (!(a == c && b == d))) w := by
  have u3 := Try.underlying3
  have a3 := Try.isAgg3
  have z3 := Try.sizeOf3
  have hS : Try.prog.underlying 26 = some (.struct (Try.prog.fieldsOf 26)) := by kernel_rfl
  have hp : Try.prog.stoodInHeld 26 = false := by kernel_rfl
  have he : (Op.equalIn 10000 26 (.agg #[.int .i64 a, .int .i64 b]) (.agg #[.int .i64 c, .int .i64 d])).run Try.prog w = .ok (a == c && b == d) w := by
    rw [show (10000 : Nat) = 9999 + 1 from rfl, run_equalIn_agg w 9999 26 _ _ hS hp]
    simp only [Program.fieldsOf, Try.underlying26]
    go_simp
    cases h1 : (a == c) <;> simp_all
    cases h2 : (b == d) <;> simp_all
  rw [run_neq_struct, he]; rfl
/-! ### Two Indexes -/
structure Qo (W w : World) (q : Nat) (r s : Int) (c : Cm) (g b h d : Nat) (x z : Ix) (v : Value) (own : List Ia) : Prop where
  low : Below W.heap.size W w
  px : Px w g b x
  pz : Px w h d z
  hg : W.heap.size ≤ g
  hb : W.heap.size ≤ b
  hh : W.heap.size ≤ h
  hd : W.heap.size ≤ d
  gh : g ≠ h
  bd : b ≠ d
  bi : Row w q 26 #[.int .i64 r, .int .i64 s]
  bc : Row w (q + 1) 29 #[.int .i64 c.k, .int .i64 c.c, .int .i64 c.q, .string c.key, .string c.en, .string c.old, .string c.val]
  ow : Rw W.heap.size 48 18 w v (iaV own)
section
variable {W w w' : World} {q : Nat} {r s : Int} {c : Cm} {g b h d : Nat} {x z x' z' : Ix} {v v' : Value} {own own' : List Ia}
theorem Qo.below (k : Qo W w q r s c g b h d x z v own) (hb : Below w.heap.size w w') : Qo W w' q r s c g b h d x z v own :=
  ⟨kept_trans k.low hb, k.px.below hb, k.pz.below hb, k.hg, k.hb, k.hh, k.hd, k.gh, k.bd, k.bi.below hb k.bi.lt, k.bc.below hb k.bc.lt, (Kq.of_below (o := fun _ => False) hb).own k.ow (fun _ _ e => e)⟩
theorem Qo.notex (k : Qo W w q r s c g b h d x z v own) (hp : Px w' g b x') (hk : Kq (fun k => k = b) w w') : Qo W w' q r s c g b h d x' z v own := by
  have h0 := k.hb
  exact ⟨hk.below k.low k.low.size (fun j hj e => by omega), hp, k.pz.kq hk (Ne.symm (mp_off k.px.mp k.pz.row)) (Ne.symm k.bd), k.hg, k.hb, k.hh, k.hd, k.gh, k.bd,
    hk.row k.bi (Ne.symm (mp_off k.px.mp k.bi)), hk.row k.bc (Ne.symm (mp_off k.px.mp k.bc)), hk.own k.ow (fun j hj e => mp_rw k.px.mp k.ow (e ▸ hj))⟩
theorem Qo.notez (k : Qo W w q r s c g b h d x z v own) (hp : Px w' h d z') (hk : Kq (fun k => k = d) w w') : Qo W w' q r s c g b h d x z' v own := by
  have h0 := k.hd
  exact ⟨hk.below k.low k.low.size (fun j hj e => by omega), k.px.kq hk (Ne.symm (mp_off k.pz.mp k.px.row)) k.bd, hp, k.hg, k.hb, k.hh, k.hd, k.gh, k.bd,
    hk.row k.bi (Ne.symm (mp_off k.pz.mp k.bi)), hk.row k.bc (Ne.symm (mp_off k.pz.mp k.bc)), hk.own k.ow (fun j hj e => mp_rw k.pz.mp k.ow (e ▸ hj))⟩
theorem Qo.more (k : Qo W w q r s c g b h d x z v own) (ho : Rw W.heap.size 48 18 w' v' (iaV own')) (hg : w.grownBy w' v.ownBlock) : Qo W w' q r s c g b h d x z v' own' := by
  have hk : Kq (fun j => v.ownBlock = some j) w w' := Kq.grown hg (fun j e => e)
  exact ⟨hk.below k.low k.low.size (fun j hj e => by have := (World.ownsRow.lt k.ow j e).1; omega), k.px.kq hk (fun e => rw_off k.ow k.px.row (by decide) e.symm) (mp_rw k.px.mp k.ow), k.pz.kq hk (fun e => rw_off k.ow k.pz.row (by decide) e.symm) (mp_rw k.pz.mp k.ow),
    k.hg, k.hb, k.hh, k.hd, k.gh, k.bd, hk.row k.bi (fun e => rw_off k.ow k.bi (by decide) e.symm), hk.row k.bc (fun e => rw_off k.ow k.bc (by decide) e.symm), ho⟩
end
theorem IaAt.zero_ {w : World} {b k : Nat} {y : Ia} (h : IaAt w b 0 k y) (i : Nat) (hi : i < 18) : w.cell? ⟨b, k * 18 + i, none⟩ = y.l[i]? := by
  have := h i hi
  rwa [Nat.zero_add] at this
theorem IaAt.range0 {w : World} {b k : Nat} {y : Ia} (h : IaAt w b 0 k y) : w.rangeAt b (k * 18) y.l := by
  have := h.range
  rwa [Nat.zero_add] at this
section
variable {W w : World} {q : Nat} {r s : Int} {c : Cm} {g b h d : Nat} {x z : Ix} {v : Value} {own : List Ia}
theorem qo_note1 (k : Qo W w q r s c g b h d x z v own) (hl : x.k.length ≤ 1000) (y : Ia) : Calls Try.prog 9 #[.pointer (some ⟨g, 0, none⟩), .agg #[.int .i64 y.r, .int .i64 y.s], .agg #[.int .i64 y.c.k, .int .i64 y.c.c, .int .i64 y.c.q, .string y.c.key, .string y.c.en, .string y.c.old, .string y.c.val], .int .i64 y.q] w
    fun e w' => e = .returned (.bool (mayN x.d y.r y.s y.c y.q)) ∧ Qo W w' q r s c g b h d (noteX x y.r y.s y.c y.q) z v own :=
  (pnote_any g b x y.r y.s y.c y.q w k.px hl).mono fun _ _ ⟨he, hp, hk⟩ => ⟨he, k.notex hp hk⟩
theorem qo_note2 (k : Qo W w q r s c g b h d x z v own) (hl : z.k.length ≤ 1000) (y : Ia) : Calls Try.prog 9 #[.pointer (some ⟨h, 0, none⟩), .agg #[.int .i64 y.r, .int .i64 y.s], .agg #[.int .i64 y.c.k, .int .i64 y.c.c, .int .i64 y.c.q, .string y.c.key, .string y.c.en, .string y.c.old, .string y.c.val], .int .i64 y.q] w
    fun e w' => e = .returned (.bool (mayN z.d y.r y.s y.c y.q)) ∧ Qo W w' q r s c g b h d x (noteX z y.r y.s y.c y.q) v own :=
  (pnote_any h d z y.r y.s y.c y.q w k.pz hl).mono fun _ _ ⟨he, hp, hk⟩ => ⟨he, k.notez hp hk⟩
theorem noteL_step (x : Ix) {L : List Ia} {k : Nat} {y : Ia} (h : L[k]? = some y) : noteL x (L.take (k + 1)) = noteX (noteL x (L.take k)) y.r y.s y.c y.q := by
  rw [List.take_add_one, h]
  exact noteL_snoc x (L.take k) y
theorem noteL_small (L : List Ia) (k : Nat) (hk : k ≤ 30) : (noteL zeroX (L.take k)).k.length ≤ 1000 := by
  have := noteL_len (L.take k) zeroX
  rw [List.length_take] at this
  have h0 : zeroX.k.length = 0 := rfl
  omega
/-- What both are asked. -/
def attO (x : Ix) (r s : Int) (c : Cm) : Array Value := cA ((attrX x r s c).1 :: (attrX x r s c).2)
theorem att_eql (x : Ix) (r s : Int) (c : Cm) (w : World) : (binOp .eql 34 (.agg (attO x r s c)) (.agg (attO x r s c))).run Try.prog w = .ok (.bool true) w := by
  unfold attO
  have h7 := attr_len x r s c
  generalize attrX x r s c = T at h7
  obtain ⟨m, e⟩ := T
  obtain ⟨d0, d1, d2, d3, d4, d5, d6, rfl⟩ := len7 h7
  have h := eql_attr m d0 d1 d2 d3 d4 d5 d6 m d0 d1 d2 d3 d4 d5 d6 w
  rw [decide_eq_true rfl] at h
  exact h
end
end Go.Proofs.Ytfihcgimgngmhaa
/- What a new command reaches, pruned or not. No condition: no walk. -/
namespace Go.Proofs.Ytfihcgimgngmhaa
set_option maxRecDepth 100000
open Go.RowKit Go.Maps
/-- Those that were noted: each may be, none is the new one's own, none is behind it in its row. -/
structure Ko (r s : Int) (own : List Ia) : Prop where
  may : ∀ y, y ∈ own → mayA zeroX.d y = true
  apart : ∀ y, y ∈ own → sameA y ⟨0, 0, r, s, ⟨0, 0, 0, ⟨#[]⟩, ⟨#[]⟩, ⟨#[]⟩, ⟨#[]⟩⟩, 0, 0, 0, 0, 0, 0, 0⟩ = false ∧ (y.r == r && decide (s < y.s)) = false
theorem noteL_d : ∀ (L : List Ia) (x : Ix), (noteL x L).d = x.d
  | [], _ => rfl
  | y :: L, x => (noteL_d L (noteX x y.r y.s y.c y.q)).trans (by unfold noteX; split <;> rfl)
theorem noteL_app (x : Ix) (L M : List Ia) : noteL x (L ++ M) = noteL (noteL x L) M := by unfold noteL; rw [List.foldl_append]
theorem note_stays {x : Ix} {r s : Int} {c : Cm} {q : Int} {e : En} (he : e ∈ x.k) (hn : e.at_ r s = false) : e ∈ (noteX x r s c q).k := by
  unfold noteX
  split
  · exact mem_putK.2 (.inr ⟨he, hn⟩)
  · exact he
theorem noteL_stays : ∀ (L : List Ia) {x : Ix} {e : En}, e ∈ x.k → (∀ z, z ∈ L → e.at_ z.r z.s = false) → e ∈ (noteL x L).k
  | [], _, _, he, _ => he
  | z :: L, _, _, he, hn => noteL_stays L (note_stays he (hn z (List.mem_cons_self ..))) (fun u hu => hn u (List.mem_cons_of_mem _ hu))
/-- The last one of its instance stands there. -/
theorem last_in {own : List Ia} {k : Nat} {y : Ia} (hk : own[k]? = some y) (hm : mayA zeroX.d y = true) (hl : ∀ j z, k < j → own[j]? = some z → sameA z y = false) : enA y ∈ (noteL zeroX own).k := by
  have hlt : k < own.length := by
    rcases Nat.lt_or_ge k own.length with h1 | h1
    · exact h1
    · rw [List.getElem?_eq_none h1] at hk; cases hk
  have e : own = own.take k ++ (y :: own.drop (k + 1)) := by
    have h1 : own.drop k = y :: own.drop (k + 1) := by
      rw [List.drop_eq_getElem_cons hlt]
      rw [List.getElem?_eq_getElem hlt] at hk
      injection hk with hk
      rw [hk]
    rw [← h1, List.take_append_drop]
  rw [e, noteL_app]
  refine noteL_stays (own.drop (k + 1)) ?_ (fun z hz => ?_)
  · have hm2 : mayN (noteL zeroX (own.take k)).d y.r y.s y.c y.q = true := by rw [noteL_d]; exact hm
    show enA y ∈ (noteX (noteL zeroX (own.take k)) y.r y.s y.c y.q).k
    rw [note_may hm2]
    exact mem_putK.2 (.inl rfl)
  · obtain ⟨j, hj⟩ := List.getElem?_of_mem hz
    rw [List.getElem?_drop] at hj
    have h1 := hl (k + 1 + j) z (by omega) hj
    cases h2 : (enA y).at_ z.r z.s
    · rfl
    · have h3 : keyA y = keyA z := at_iff.1 h2
      rw [sameA_iff.2 h3.symm] at h1
      cases h1
theorem hits_yes {r s : Int} {c : Cm} {y : Ia} {own : List Ia} (ho : Ko r s own) (hy : y ∈ own) (hc : clashC y.c c = true) : hits r s c (enA y) = true := by
  obtain ⟨h1, h2⟩ := ho.apart y hy
  rw [hits_is]
  show (!(y.r == r && decide (s ≤ y.s)) && clashC y.c c) = true
  rw [hc, Bool.and_true]
  unfold sameA at h1
  simp only at h1
  by_cases hr : y.r = r
  · have e : (y.r == r) = true := by simpa using hr
    rw [e, Bool.true_and] at h1 h2 ⊢
    have h3 : ¬ y.s = s := by simpa using h1
    have h4 : ¬ s < y.s := of_decide_eq_false h2
    rw [decide_eq_false (by omega)]
    rfl
  · have e : (y.r == r) = false := by simpa using hr
    rw [e]
    rfl
/-- A row of an answer is no less than what is hung on. -/
theorem attr_ge {x : Ix} {r s : Int} {c : Cm} {k : Nat} (hk : k < 7) : ix (hangs x.k r s c).2 k ≤ ix (attrX x r s c).2 k := by
  rw [attr_ix _ _ _ _ hk]
  unfold cutI ownI
  split
  · split
    · omega
    · exact Int.le_refl _
  · omega
/-- P14.5: it is reached, and stands below. -/
theorem reach_last {r s : Int} {c : Cm} {own : List Ia} (ho : Ko r s own) {k : Nat} {y : Ia} (hk : own[k]? = some y) (hl : ∀ j z, k < j → own[j]? = some z → sameA z y = false) (hc : clashC y.c c = true) :
    reachB (attrX (noteL zeroX own) r s c).2 y.r y.s = true ∧ y.q < (attrX (noteL zeroX own) r s c).1 := by
  have hy := List.mem_of_getElem? hk
  have hin := last_in hk (ho.may y hy) hl
  obtain ⟨hr, _, _, _, _⟩ := may_iff.1 (ho.may y hy)
  have hh := hangs_hit hin (hits_yes ho hy hc) hr
  obtain ⟨r0, r7, _, _⟩ := rightI_is hr
  have h1 := attr_ge (x := noteL zeroX own) (r := r) (s := s) (c := c) (k := y.r.toNat) (by omega)
  have h2 : y.s ≤ ix (hangs (noteL zeroX own).k r s c).2 y.r.toNat := hh.2
  have h3 : y.q + 1 ≤ (attrX (noteL zeroX own) r s c).1 := hh.1
  refine ⟨?_, by omega⟩
  unfold reachB
  rw [hr, Bool.true_and]
  exact decide_eq_true (by omega)
/-- One's own row is reached up to oneself. -/
theorem own_row {x : Ix} (hk : Kn x) {r s : Int} (c : Cm) (hr : rightI r s = true) : ix (attrX x r s c).2 r.toNat = s - 1 := by
  obtain ⟨r0, r7, s1, _⟩ := rightI_is hr
  rw [attr_ix _ _ _ _ (by omega)]
  unfold cutI ownI
  rw [if_pos (by omega), if_pos (by omega), if_pos hr]
  have hlow := hangs_low x.k r s c
  have hle := (hangs_le (k := x.k) (r := r) (s := s) (c := c) (hangs x.k r s c).1 (fun j => if j = r.toNat then s - 1 else ix (hangs x.k r s c).2 j) hlow.1 (fun j => by
    have := hlow.2 j
    split <;> omega) (fun e he hh => by
    have hre := (may_iff.1 (hk.ok e he)).1
    obtain ⟨e0, e7, _, _⟩ := rightI_is hre
    have h1 := hangs_hit he hh hre
    refine ⟨h1.1, ?_⟩
    split
    · rename_i h2
      have h3 : e.r = r := by omega
      rw [hits_is, Bool.and_eq_true] at hh
      have h4 := hh.1
      rw [h3] at h4
      have h5 : decide (s ≤ e.s) = false := by simpa using h4
      have := of_decide_eq_false h5
      omega
    · exact h1.2)).2 r.toNat
  rw [if_pos rfl] at hle
  omega
theorem cov_iff {a b : List Int} : coversB a b = true ↔ ∀ k, k < 7 → ix b k ≤ ix a k := by
  unfold coversB
  rw [allTo_iff]
  exact ⟨fun h k hk => of_decide_eq_true (h k hk), fun h k hk => decide_eq_true (h k hk)⟩
/-- Pruned it is reached, too. -/
theorem prune_ge {x : Ix} (hx : Kn x) (u : List Int) (r s : Int) (c : Cm) {k : Nat} (hk : k < 7) (hr : (k : Int) ≠ r) : ix (attrX x r s c).2 k ≤ ix (attrX (pruneX x u) r s c).2 k := by
  have hl := hx.low k hk
  have hlow := hangs_low (pruneX x u).k r s c
  have hup : ∀ j, j < 7 → ix x.d j ≤ ix (upD x.d u) j ∧ 0 ≤ ix (upD x.d u) j := fun j hj => by
    unfold upD
    rw [ix_map7 _ hj]
    have := hx.low j hj
    omega
  rw [attr_ix _ _ _ _ hk, attr_ix _ _ _ _ hk]
  unfold cutI ownI
  rw [if_neg hr, if_neg hr, if_neg hr, if_neg hr]
  have hle := (hangs_le (k := x.k) (r := r) (s := s) (c := c) (hangs x.k r s c).1 (fun j => max (ix (hangs (pruneX x u).k r s c).2 j) (if j < 7 then ix (upD x.d u) j else 0)) (hangs_low x.k r s c).1 (fun j => by
    have := hlow.2 j
    omega) (fun e he hh => by
    have hre := (may_iff.1 (hx.ok e he)).1
    obtain ⟨e0, e7, _, _⟩ := rightI_is hre
    refine ⟨(hangs_hit he hh hre).1, ?_⟩
    rw [if_pos (by omega)]
    by_cases ho : overB (upD x.d u) e = true
    · have h1 := (hangs_hit (k := (pruneX x u).k) (List.mem_filter.2 ⟨he, ho⟩) hh hre).2
      omega
    · unfold overB at ho
      have h1 : ¬ ix (upD x.d u) e.r.toNat < e.s := by simpa using ho
      omega)).2 k
  rw [if_pos hk] at hle
  have h1 := hup k hk
  have h2 : (pruneX x u).d = upD x.d u := rfl
  rw [h2]
  omega
theorem prune_covers {x : Ix} (hx : Kn x) (u : List Int) {r s : Int} (c : Cm) (hr : rightI r s = true) :
    coversB ((attrX (pruneX x u) r s c).2.set r.toNat (max (ix (attrX (pruneX x u) r s c).2 r.toNat) (ix (attrX x r s c).2 r.toNat))) (attrX x r s c).2 = true := by
  obtain ⟨r0, r7, _, _⟩ := rightI_is hr
  rw [cov_iff]
  intro k hk
  rw [ix_set7 _ _ (attr_len _ _ _ _) hk]
  by_cases h : r.toNat = k
  · subst h
    rw [if_pos rfl]
    omega
  · rw [if_neg h]
    exact prune_ge hx u r s c hk (by omega)
theorem right_key {c : Cm} (hc : rightC c = true) : c.key.size ≤ 140737488355328 := by
  unfold rightC at hc
  by_cases h0 : c.k = 0
  · rw [if_pos h0, sameC_iff] at hc
    rw [hc]
    exact Nat.zero_le _
  · rw [if_neg h0, Bool.and_eq_true] at hc
    have h1 := hc.2
    unfold boundC at h1
    simp only [Bool.and_eq_true, decide_eq_true_eq] at h1
    omega
/-! ### The walk's state -/
structure Qh (W w : World) (q : Nat) (r s : Int) (c : Cm) (u : List Int) (g b : Nat) (x : Ix) (v : Value) (own : List Ia) : Prop where
  low : Below W.heap.size W w
  px : Px w g b x
  hg : W.heap.size ≤ g
  hb : W.heap.size ≤ b
  bi : Row w q 26 #[.int .i64 r, .int .i64 s]
  bc : Row w (q + 1) 29 #[.int .i64 c.k, .int .i64 c.c, .int .i64 c.q, .string c.key, .string c.en, .string c.old, .string c.val]
  bu : Row w (q + 2) 32 (dC u)
  ow : Rw W.heap.size 48 18 w v (iaV own)
section
variable {W w w' : World} {q : Nat} {r s : Int} {c : Cm} {u : List Int} {g b : Nat} {x x' : Ix} {v v' : Value} {own own' : List Ia}
theorem Qh.below (k : Qh W w q r s c u g b x v own) (hb : Below w.heap.size w w') : Qh W w' q r s c u g b x v own :=
  ⟨kept_trans k.low hb, k.px.below hb, k.hg, k.hb, k.bi.below hb k.bi.lt, k.bc.below hb k.bc.lt, k.bu.below hb k.bu.lt, (Kq.of_below (o := fun _ => False) hb).own k.ow (fun _ _ e => e)⟩
theorem Qh.prog {o : Nat → Prop} (k : Qh W w q r s c u g b x v own) (hp : Px w' g b x') (hk : Kq o w w') (ho : ∀ j, o j → j = g ∨ j = b) : Qh W w' q r s c u g b x' v own := by
  have h1 := k.hg
  have h2 := k.hb
  have hrow : ∀ {a : Nat} {t : TypeId} {cs : Array Value}, Row w a t cs → t ≠ 62 → ¬ o a := fun hr hne e => by
    rcases ho _ e with rfl | rfl
    · exact rows_ne hr k.px.row hne rfl
    · exact mp_off k.px.mp hr rfl
  exact ⟨hk.below k.low k.low.size (fun j hj e => by have := ho j e; omega), hp, k.hg, k.hb, hk.row k.bi (hrow k.bi (by decide)), hk.row k.bc (hrow k.bc (by decide)), hk.row k.bu (hrow k.bu (by decide)),
    hk.own k.ow (fun j hj e => by
      rcases ho j e with rfl | rfl
      · exact rw_off k.ow k.px.row (by decide) hj.symm
      · exact mp_rw k.px.mp k.ow hj)⟩
theorem Qh.more (k : Qh W w q r s c u g b x v own) (ho : Rw W.heap.size 48 18 w' v' (iaV own')) (hg : w.grownBy w' v.ownBlock) : Qh W w' q r s c u g b x v' own' := by
  have hk : Kq (fun j => v.ownBlock = some j) w w' := Kq.grown hg (fun j e => e)
  exact ⟨hk.below k.low k.low.size (fun j hj e => by have := (World.ownsRow.lt k.ow j e).1; omega), k.px.kq hk (fun e => rw_off k.ow k.px.row (by decide) e.symm) (mp_rw k.px.mp k.ow),
    k.hg, k.hb, hk.row k.bi (fun e => rw_off k.ow k.bi (by decide) e.symm), hk.row k.bc (fun e => rw_off k.ow k.bc (by decide) e.symm), hk.row k.bu (fun e => rw_off k.ow k.bu (by decide) e.symm), ho⟩
theorem qh_note (k : Qh W w q r s c u g b x v own) (hl : x.k.length ≤ 1000) (y : Ia) : Calls Try.prog 9 #[.pointer (some ⟨g, 0, none⟩), .agg #[.int .i64 y.r, .int .i64 y.s], .agg #[.int .i64 y.c.k, .int .i64 y.c.c, .int .i64 y.c.q, .string y.c.key, .string y.c.en, .string y.c.old, .string y.c.val], .int .i64 y.q] w
    fun e w' => e = .returned (.bool (mayN x.d y.r y.s y.c y.q)) ∧ Qh W w' q r s c u g b (noteX x y.r y.s y.c y.q) v own :=
  (pnote_any g b x y.r y.s y.c y.q w k.px hl).mono fun _ _ ⟨he, hp, hk⟩ => ⟨he, k.prog hp hk (fun _ e => .inr e)⟩
end
end Go.Proofs.Ytfihcgimgngmhaa
