/- What LetterReads keeps. No condition. -/
import Derived.Test.YtlnpfaoeockoiaaWk
import Derived.Test.YtlnpfaoeockoiaaWzw
import Derived.Test.YtlnpfaoeockoiaaWrx
import Derived.Test.YtlnpfaoeockoiaaWa
import Derived.Test.YtlnpfaoeockoiaaWc
namespace Go.Proofs.Ytlnpfaoeockoiaa
set_option maxRecDepth 100000
open Go.RowKit
/-- Some bytes, and what was there. -/
structure Ow (W w : World) (A : Option Addr) (n c : Nat) (os : List Int) : Prop where
  old : Below W.heap.size W w
  z : Lies w A os
  len : os.length = n
  le : n ≤ c
  room : c ≤ 9223372036854775807
  nil : A = none → c = 0
  oct : Octets os
  small : n ≤ 10000
theorem Ow.kept {W w w' : World} {A : Option Addr} {n c : Nat} {os : List Int} (h : Ow W w A n c os) (hb : Below w.heap.size w w') : Ow W w' A n c os := ⟨kept_trans h.old hb, h.z.below hb, h.len, h.le, h.room, h.nil, h.oct, h.small⟩
theorem got_both {zs : List Int} {v1 v2 : Cl} {i1 i2 : Nat} {e1 e2 : Int} (h1 : Got (dCl zs 0) 0 v1 i1 e1) (h2 : Got (dCl zs 0) 0 v2 i2 e2) (z1 : zeroed v1 e1) (z2 : zeroed v2 e2) : v1 = v2 ∧ e1 = e2 := by
  cases hd : dCl zs 0 with
  | error x =>
    obtain ⟨a1, a2⟩ := h1.error hd
    obtain ⟨b1, b2⟩ := h2.error hd
    exact ⟨(z1.2 (by rw [a1]; exact a2)).trans (z2.2 (by rw [b1]; exact b2)).symm, by rw [a1, b1]⟩
  | ok v =>
    obtain ⟨a, j⟩ := v
    obtain ⟨a1, _, a3⟩ := h1.fine hd
    obtain ⟨b1, _, b3⟩ := h2.fine hd
    exact ⟨by rw [a1, b1], by rw [a3, b3]⟩
theorem octets_set {zs : List Int} (h : Octets zs) {z : Int} (hz : 0 ≤ z ∧ z ≤ 255) (k : Nat) : Octets (zs.set k z) := fun y hy => by
  rcases List.mem_or_eq_of_mem_set hy with h1 | rfl
  · exact h y h1
  · exact hz
theorem octets_snoc {zs : List Int} (h : Octets zs) {z : Int} (hz : 0 ≤ z ∧ z ≤ 255) : Octets (zs ++ [z]) := fun y hy => by
  rcases List.mem_append.1 hy with h1 | h1
  · exact h y h1
  · rw [List.mem_singleton.1 h1]; exact hz
/-- One of the call's own bytes is turned. -/
theorem By.turned {b g c : Nat} {w : World} {zs : List Int} (h : By b w (.slice (some ⟨g, 0, none⟩) zs.length c) zs) (k : Nat) (hk : k < zs.length) (z : Int) :
    (∃ u, w.cell? ⟨g, k, none⟩ = some u) ∧ w.frozen? ⟨g, k, none⟩ = false ∧ By b (w.setCell ⟨g, k, none⟩ (.int .u8 z)) (.slice (some ⟨g, 0, none⟩) zs.length c) (zs.set k z) := by
  have ho : w.ownsRow b 5 1 (.slice (some ⟨g, 0, none⟩) zs.length c) zs.length (cellsOf zs) := h
  refine ⟨⟨_, by rw [ho.cellAt _ (by omega), cellsOf_at _ (by omega)]⟩, ho.frozenAt k, ?_⟩
  have hst := (ho.stored k (.int .u8 z)).1
  unfold By
  rw [List.length_set]
  unfold cellsOf at hst ⊢
  rw [List.map_set]
  exact hst
theorem ow_of {W w : World} {b n c : Nat} {A : Option Addr} {os : List Int} (old : Below W.heap.size W w) (h : By b w (.slice A n c) os) (hl : os.length = n) (ho : Octets os) (hs : n ≤ 10000) : Ow W w A n c os := by
  obtain ⟨A', c', e, h1, h2, h4, h3⟩ := h.form
  injection e with e1 e2 e3
  subst e1 e3
  exact ⟨old, h3, hl, by omega, h4, h1, ho, hs⟩
/-- Roomy's answer, as bytes that lie. -/
theorem roomy_own (A : Option Addr) (n c : Nat) (zs : List Int) (z : Int) (w : World) (hn : zs.length = n) (hz : Lies w A zs) (ln : n ≤ 140737488355240) :
    Calls Try.prog 21 #[.slice A n c, .int .u8 z] w fun e w' => ∃ gf, e = .returned (.slice (some ⟨gf, 0, none⟩) (n + 80) (n + 80)) ∧ Lies w' (some ⟨gf, 0, none⟩) (zs ++ pad 80 z) ∧ Below w.heap.size w w' :=
  (roomy_any A n c zs z w hn hz ln).mono fun _ _ ⟨h1, h2, h3⟩ => ⟨_, h1, Lies.of_own h2, h3⟩
end Go.Proofs.Ytlnpfaoeockoiaa
