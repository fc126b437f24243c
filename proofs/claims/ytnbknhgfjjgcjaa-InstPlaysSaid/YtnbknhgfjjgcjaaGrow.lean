/- A slice of instances that a region that draws its order puts together. Conditions: it has room. -/
import Derived.Test.YtnbknhgfjjgcjaaPlay
import Derived.Test.YtnbknhgfjjgcjaaTail
import Derived.Test.YtnbknhgfjjgcjaaRuns
namespace Go.Proofs.Ytnbknhgfjjgcjaa
open Go.RowKit Go.Maps
/-- An own slice of the instances xs at block g; nothing of W has turned. -/
structure Gw (W w : World) (g n cap : Nat) (xs : List (Int × Int)) : Prop where
  low : Below W.heap.size W w
  own : w.ownsRow W.heap.size 25 2 (.slice (some ⟨g, 0, none⟩) n cap) n (cellsP xs)
section
variable {W w w' : World} {g n cap : Nat} {xs : List (Int × Int)}
theorem Gw.start (h : Below W.heap.size W w) : Gw W (w.alloc (.cells #[] 25)) w.heap.size 0 0 [] :=
  ⟨h.alloc h.size _, w.ownsRow_made #[] 0 h.size (by unfold maxLen; omega) rfl⟩
theorem Gw.alloc (h : Gw W w g n cap xs) (o : Obj) : Gw W (w.alloc o) g n cap xs := ⟨h.low.alloc h.low.size _, h.own.alloc _⟩
theorem Gw.lt (h : Gw W w g n cap xs) : W.heap.size ≤ g ∧ g < w.heap.size := h.own.lt g rfl
theorem Gw.ins (h : Gw W w g n cap xs) : Ins w (some ⟨g, 0, none⟩) xs := (ins_own h.own).1
end
/-- The rest of a slice from the i-th on: its address as the model reckons it. -/
def partP (A : Option Addr) (c i : Nat) : Option Addr := if c = i then A else Option.map (fun x => x.add (i * 2)) A
theorem Ins.rest {w : World} {A : Option Addr} {l : List (Int × Int)} {c : Nat} (h : Ins w A l) (hc : l.length ≤ c) (i : Nat) : Ins w (partP A c i) (l.drop i) := fun hn => by
  rw [List.length_drop] at hn
  obtain ⟨b, off, e, hlt, hcell⟩ := h (by omega)
  have hne : ¬ c = i := by omega
  unfold partP
  rw [if_neg hne, e]
  refine ⟨b, off + i * 2, ?_, hlt, fun k x hk => ?_⟩
  · show some ((⟨b, off, none⟩ : Addr).add (i * 2)) = _
    rw [Go.WideShapes.add_plain]
  · rw [List.getElem?_drop] at hk
    have := hcell _ _ hk
    rw [show off + i * 2 + k * 2 = off + (i + k) * 2 by omega]
    exact this
theorem partP_none {A : Option Addr} {c i : Nat} (h : A = none → c = 0) (k : partP A c i = none) : c - i = 0 := by
  unfold partP at k
  split at k
  · omega
  · cases A with
    | none => rw [h rfl]; omega
    | some a => cases k
theorem step_append_gw {ops : Array Oper} {o : Oper} {a : Act} {K : Act → World → Prop} {Q : Exit → Act → World → Prop} {E : Prop} (hgd : o.guard = none) (s x : Operand)
    (ho : o.op = .call { callee := .builtin .append, args := #[s, x], argTypes := #[29, 29] })
    {W w : World} {g n cap : Nat} {xs : List (Int × Int)} (hs : a.eval s = .slice (some ⟨g, 0, none⟩) n cap) (hG : Gw W w g n cap xs)
    (A : Option Addr) (m c : Nat) (zs : List (Int × Int)) (hx : a.eval x = .slice A m c) (hm : zs.length = m) (hc : A = none → c = 0) (hl : Ins w A zs) (N : Nat) (hN : n + m = N) (hb : N ≤ 1000000000)
    (h : ∀ g' cap' w', Gw W w' g' N cap' (xs ++ zs) → w.grownBy w' (some g) → N ≤ cap' → K (a.put o.dst (.slice (some ⟨g', 0, none⟩) N cap')) w') :
    if Region.wanted o (yielded ops a.tmps) = true then Oper.wp Try.prog o a w K Q else E := by
  obtain ⟨i0, hi, hz0, hz1, hz2⟩ := info_parts Try.info25
  subst hN
  refine step_append_ins hgd s x 29 ho W.heap.size 25 i0 (.agg #[.int .i64 0, .int .i64 0]) Try.underlying29 hi hz0 hz1 hz2 rfl _ n xs hs hG.own (by simp) A m c zs hx hm hc hl hb hG.low.size fun g' cap' w' h1 h2 h3 => h g' cap' w' ⟨?_, h1⟩ h2 h3
  exact hG.low.grown h2 hG.low.size (fun k hk => by cases hk; exact hG.lt.1)
/-- What was put together, stored behind q. -/
theorem Gw.store {W w : World} {g n cap : Nat} {xs ys : List (Int × Int)} (h : Gw W w g n cap xs) (q d : Nat) {v : Value} {t : TypeId} (hq : Row W q t #[v]) (ht : t = 29) (hqd : q ≠ d) (hd : d < W.heap.size) (he : xs = ys) (hcap : n ≤ cap) :
    Wt (w.setCell ⟨q, 0, none⟩ (.slice (some ⟨g, 0, none⟩) n cap)) q d ys ∧ W.grownBy (w.setCell ⟨q, 0, none⟩ (.slice (some ⟨g, 0, none⟩) n cap)) (some q) := by
  subst he ht
  have hR : Row w q 29 #[v] := hq.below h.low hq.lt
  have hlen := (ins_own h.own).2
  have hg := h.lt
  have hqlt := hq.lt
  have hset : w.grownBy (w.setCell ⟨q, 0, none⟩ (.slice (some ⟨g, 0, none⟩) n cap)) (some q) := grown_put (grown_refl w (some q)) 0 _
  refine ⟨⟨⟨some ⟨g, 0, none⟩, cap, ?_, h.ins.grown hset (fun a e => ?_), fun e => (by cases e), by omega, fun a e => ?_⟩, hqd⟩, grown_trans (grown_any (grown_below h.low)) hset⟩
  · rw [hlen]
    have := hR.put 0 (.slice (some ⟨g, 0, none⟩) n cap)
    simpa using this
  · cases e
    intro k
    have := Option.some.inj k
    simp at this
    omega
  · cases e
    constructor
    · intro k; simp at k; omega
    · intro k; simp at k; omega
end Go.Proofs.Ytnbknhgfjjgcjaa
