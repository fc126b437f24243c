/- Slices of files that a region that draws its order puts together; what turns in the document's disk. Conditions: they have room. -/
import Derived.Test.YtllgjbkmemheoaaRefc
import Derived.Test.YtllgjbkmemheoaaTail
import Derived.Laws.OwnMore
namespace Go.Proofs.Ytllgjbkmemheoaa
open Go.RowKit Go.Maps
section
variable {w w' W : World} {A : Option Addr} {R : List (Fl × Ps)}
theorem Lies3.cells {b off : Nat} (h : Lies3 w (some ⟨b, off, none⟩) R) : ∀ j u, (cells3 R)[j]? = some u → w.cell? ((⟨b, off, none⟩ : Addr).add j) = some u := fun j u hj => by
  obtain ⟨k, x, hk, hju⟩ := cells3_get hj
  obtain ⟨b', off', e, _, hc⟩ := h (by
    rcases Nat.eq_zero_or_pos R.length with h0 | h0
    · rw [List.eq_nil_of_length_eq_zero h0] at hk; cases hk
    · exact h0)
  obtain ⟨h0, h1, h2⟩ := hc k x hk
  injection e with e
  injection e with e1 e2 _
  subst e1 e2
  rw [Go.WideShapes.add_plain]
  rcases hju with ⟨rfl, rfl⟩ | ⟨rfl, rfl⟩ | ⟨rfl, rfl⟩
  · exact h0
  · exact h1
  · exact h2
theorem Lies3.below (h : Lies3 w A R) (hb : Below w.heap.size w w') : Lies3 w' A R := fun hn => by
  obtain ⟨b, off, e, hlt, hc⟩ := h hn
  have key : ∀ i, w'.cell? ⟨b, i, none⟩ = w.cell? ⟨b, i, none⟩ := fun i => World.cell?_of_block (a := ⟨b, i, none⟩) (hb.block b hlt)
  exact ⟨b, off, e, Nat.lt_of_lt_of_le hlt hb.size, fun k x hk => by simp only [key]; exact hc k x hk⟩
theorem Lies3.take (h : Lies3 w A R) (k : Nat) : Lies3 w A (R.take k) := fun hn => by
  rw [List.length_take] at hn
  obtain ⟨b, off, e, hlt, hc⟩ := h (by omega)
  refine ⟨b, off, e, hlt, fun j x hj => hc j x ?_⟩
  rw [List.getElem?_take] at hj
  split at hj
  · exact hj
  · cases hj
/-- The rest of a slice from the i-th on: its address as the model reckons it. -/
def part3 (A : Option Addr) (c i : Nat) : Option Addr := if c = i then A else Option.map (fun x => x.add (i * 3)) A
theorem Lies3.rest {c : Nat} (h : Lies3 w A R) (hc : R.length ≤ c) (i : Nat) : Lies3 w (part3 A c i) (R.drop i) := fun hn => by
  rw [List.length_drop] at hn
  obtain ⟨b, off, e, hlt, hcell⟩ := h (by omega)
  have hne : ¬ c = i := by omega
  unfold part3
  rw [if_neg hne, e]
  refine ⟨b, off + i * 3, ?_, hlt, fun k x hk => ?_⟩
  · show some ((⟨b, off, none⟩ : Addr).add (i * 3)) = _
    rw [Go.WideShapes.add_plain]
  · rw [List.getElem?_drop] at hk
    have := hcell _ _ hk
    rw [show off + i * 3 + k * 3 = off + (i + k) * 3 by omega]
    exact this
theorem part3_none {c i : Nat} (h : A = none → c = 0) (k : part3 A c i = none) : c - i = 0 := by
  unfold part3 at k
  split at k
  · omega
  · cases A with
    | none => rw [h rfl]; omega
    | some a => cases k
theorem run_append_3 {P : Program} (base : Nat) (t ty e : TypeId) (i : TypeInfo) (z : Value) (ht : P.underlying t = some (.slice e)) (hi : P.info? e = some i) (hz : i.zero = some z) (hsize : i.size = 3) (hby : i.bytes = 48) (hzs : z.cells.size = 3)
    (v : Value) (n : Nat) (xs : List (Fl × Ps)) (hown : w.ownsRow base e 3 v n (cells3 xs)) (hv : v ≠ .slice none 0 0)
    (A : Option Addr) (m c : Nat) (zs : List (Fl × Ps)) (hm : zs.length = m) (hc : A = none → c = 0) (hl : Lies3 w A zs) (hb : n + m ≤ 1000000000) (hbase : base ≤ w.heap.size) :
    ∃ g cap w', (Builtin.append_ #[t, t] ty #[v, .slice A m c]).run P w = .ok (.slice (some ⟨g, 0, none⟩) (n + m) cap) w' ∧ w'.ownsRow base e 3 (.slice (some ⟨g, 0, none⟩) (n + m) cap) (n + m) (cells3 (xs ++ zs)) ∧ w.grownBy w' v.ownBlock ∧ n + m ≤ cap := by
  subst hm
  have hform : ∀ (v' : Value) (w' : World) (k : Nat) (ys : List Value), w'.ownsRow base e 3 v' k ys → v' ≠ .slice none 0 0 → ∃ g cap, v' = .slice (some ⟨g, 0, none⟩) k cap ∧ k ≤ cap := fun v' w' k ys h hne => by
    rcases h.2 with ⟨h1, _⟩ | ⟨g, cap, cur, h1, _, _, h2, _⟩
    · exact absurd h1 hne
    · exact ⟨g, cap, h1, h2⟩
  rcases A with _ | ad
  · have hz0 : zs = [] := by
      rcases zs with _ | ⟨x, r⟩
      · rfl
      · obtain ⟨_, _, e, _⟩ := hl (by simp)
        cases e
    subst hz0
    obtain rfl := hc rfl
    obtain ⟨g, cap, rfl, hcap⟩ := hform _ _ _ _ hown hv
    exact ⟨g, cap, w, run_append_owned_none (P := P) (w := w) base t ty e i 3 ht hi _ n (cells3 xs) hown, by simpa using hown, grown_refl _ _, hcap⟩
  · have hsp : ∀ j u, (cells3 zs)[j]? = some u → w.cell? (ad.add j) = some u := fun j u hj => by
      rcases zs with _ | ⟨x, r⟩
      · cases hj
      · obtain ⟨b, off, e, _⟩ := hl (by simp)
        injection e with e
        subst e
        exact hl.cells j u hj
    obtain ⟨v', w', hr, h1, h2, h3⟩ := run_append_own (P := P) w base t ty e i z 3 48 ht hi hz hsize hby hzs (by omega) v n (cells3 xs) hown ad zs.length c (cells3 zs) (length_cells3 zs) hsp cells3_one (by unfold maxLen; omega) (by omega) hbase
    obtain ⟨g, cap, rfl, hcap⟩ := hform _ _ _ _ h1 (fun h => hv (h3.1 h).1)
    exact ⟨g, cap, w', hr, by rw [cells3_append]; exact h1, h2, hcap⟩
set_option maxRecDepth 100000 in
theorem Try.infoFile : (Try.prog.info? 78).map (fun i => (i.zero, i.size, i.bytes)) = some (some (.agg #[.string ⟨#[]⟩, .slice none 0 0, .int .i64 0]), 3, 48) := by kernel_rfl
/-- An own slice of the files xs at block g; nothing of W has turned. -/
structure Fw (W w : World) (g n cap : Nat) (xs : List (Fl × Ps)) : Prop where
  low : Below W.heap.size W w
  own : w.ownsRow W.heap.size 78 3 (.slice (some ⟨g, 0, none⟩) n cap) n (cells3 xs)
section
variable {g n cap : Nat} {xs : List (Fl × Ps)}
theorem Fw.start (h : Below W.heap.size W w) : Fw W (w.alloc (.cells #[] 78)) w.heap.size 0 0 [] :=
  ⟨h.alloc h.size _, w.ownsRow_made #[] 0 h.size (by unfold maxLen; omega) rfl⟩
theorem Fw.alloc (h : Fw W w g n cap xs) (o : Obj) : Fw W (w.alloc o) g n cap xs := ⟨h.low.alloc h.low.size _, h.own.alloc _⟩
theorem Fw.lt (h : Fw W w g n cap xs) : W.heap.size ≤ g ∧ g < w.heap.size := h.own.lt g rfl
theorem step_append_fw {ops : Array Oper} {o : Oper} {a : Act} {K : Act → World → Prop} {Q : Exit → Act → World → Prop} {E : Prop} (hgd : o.guard = none) (s x : Operand)
    (ho : o.op = .call { callee := .builtin .append, args := #[s, x], argTypes := #[64, 64] })
    (hs : a.eval s = .slice (some ⟨g, 0, none⟩) n cap) (hG : Fw W w g n cap xs)
    (A : Option Addr) (m c : Nat) (zs : List (Fl × Ps)) (hx : a.eval x = .slice A m c) (hm : zs.length = m) (hc : A = none → c = 0) (hl : Lies3 w A zs) (N : Nat) (hN : n + m = N) (hb : N ≤ 1000000000)
    (h : ∀ g' cap' w', Fw W w' g' N cap' (xs ++ zs) → w.grownBy w' (some g) → N ≤ cap' → K (a.put o.dst (.slice (some ⟨g', 0, none⟩) N cap')) w') :
    if Region.wanted o (yielded ops a.tmps) = true then Oper.wp Try.prog o a w K Q else E := by
  obtain ⟨i0, hi, hz0, hz1, hz2⟩ := info_parts Try.infoFile
  subst hN
  have hw : Region.wanted o (yielded ops a.tmps) = true := by simp [Region.wanted, hgd]
  rw [if_pos hw]
  obtain ⟨g', cap', w', hr, h2, h3, h4⟩ := run_append_3 (P := Try.prog) (w := w) W.heap.size 64 o.type 78 i0 _ Try.underlying64 hi hz0 hz1 hz2 rfl _ n xs hG.own (by simp) A m c zs hm hc hl hb hG.low.size
  unfold Oper.wp execOp
  simp only [ho, resolve, invoke, builtin, Sem.run_bind, Sem.run_pure, Result.andThen_ok, List.map_toArray, List.map_cons, List.map_nil, hs, hx, hr]
  exact h g' cap' w' ⟨hG.low.grown h3 hG.low.size (fun k hk => by cases hk; exact hG.lt.1), h2⟩ h3 h4
end
end
end Go.Proofs.Ytllgjbkmemheoaa
