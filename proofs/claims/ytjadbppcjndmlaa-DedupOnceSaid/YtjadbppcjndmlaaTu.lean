/- The law's turn: pairs of an own row are turned; nothing else is. Condition: their number has room. -/
import Derived.Test.YtjadbppcjndmlaaSn
namespace Go.Proofs.Ytjadbppcjndmlaa
open Go.RowKit
theorem pin_nil {w : World} {A : Option Addr} {n c : Nat} {l : List Pr} (h : Pin w (.slice A n c) l) : A = none → c = 0 := by
  obtain ⟨_, _, e, h1, _⟩ := h
  cases e; exact h1
theorem pin_lies {w : World} {A : Option Addr} {n c : Nat} {l : List Pr} (h : Pin w (.slice A n c) l) : Prs w A l := by
  obtain ⟨_, _, e, _, _, _, h1⟩ := h
  cases e; exact h1
set_option maxHeartbeats 4000000 in
theorem turn_any (v : Value) (n : Nat) (xs : List Value) (b : Nat) (w : World) (h : w.ownsRow b 49 3 v n xs) (ln : n ≤ 4611686018427387904) :
    Calls Try.prog 16 #[v] w fun e w' => e = .returned (.tuple #[]) ∧ w.grownBy w' v.ownBlock := by
  rcases h.2 with ⟨rfl, h0⟩ | ⟨g, cap, cur, rfl, hg, hh, hc, hm, hs, ht⟩
  · subst h0
    go_enter Try.func16, Try.ntmps16
    go_wp2
    go_loopw [2] (fun i wr => i = .int .i64 0 ∧ Hid (wr = w)) (fun i _ => 0 - (intOf i).toNat)
    case atStart => exact ⟨rfl, hide rfl⟩
    case round =>
      obtain ⟨rfl, hw⟩ := hrel
      obtain rfl := hw.out
      go_wp2
      go_end0
      exact ⟨rfl, grown_refl _ _⟩
  · have H := hide h
    have hlen := h.1
    clear h hh ht
    go_enter Try.func16, Try.ntmps16
    go_wp2
    go_loopw [2] (fun i wr => ∃ (k : Nat) (ys : List Value), k ≤ n ∧ i = .int .i64 k ∧ Hid (wr.ownsRow b 49 3 (.slice (some ⟨g, 0, none⟩) n cap) n ys) ∧ Hid (w.grownBy wr (some g))) (fun i _ => n - (intOf i).toNat)
    case atStart => exact ⟨0, xs, by omega, rfl, H, grown_refl _ _⟩
    case round =>
      obtain ⟨k, ys, hk, rfl, HM, HG⟩ := hrel
      by_cases hlt : k < n
      · have l0 := HM.out.1
        have hk3 : k * 3 + 2 < n * 3 := by omega
        have c0 := (HM.out.cellAt (k * 3) (by omega)).trans (List.getElem?_eq_getElem (by omega))
        have c1 := (HM.out.cellAt (k * 3 + 1) (by omega)).trans (List.getElem?_eq_getElem (by omega))
        have c2 := (HM.out.cellAt (k * 3 + 2) (by omega)).trans (List.getElem?_eq_getElem (by omega))
        have f0 := HM.out.frozenAt (k * 3)
        have f1 := HM.out.frozenAt (k * 3 + 1)
        have f2 := HM.out.frozenAt (k * 3 + 2)
        obtain ⟨u0, e0⟩ : ∃ u, ys[k * 3]'(by omega) = u := ⟨_, rfl⟩
        obtain ⟨u1, e1⟩ : ∃ u, ys[k * 3 + 1]'(by omega) = u := ⟨_, rfl⟩
        obtain ⟨u2, e2⟩ : ∃ u, ys[k * 3 + 2]'(by omega) = u := ⟨_, rfl⟩
        rw [e0] at c0
        rw [e1] at c1
        rw [e2] at c2
        clear l0 hk3 e0 e1 e2 hlen hs
        go_wp2
        go_roundw
        case rel =>
          have s0 := HM.out.stored (k * 3) (.string { data := #[] })
          have s1 := s0.1.stored (k * 3 + 1) (.string { data := #[] })
          have s2 := s1.1.stored (k * 3 + 2) (.int .i64 (-1))
          exact ⟨k + 1, _, by omega, by go_num, s2.1, hide (grown_trans HG.out (grown_trans s0.2 (grown_trans s1.2 s2.2)))⟩
        case measure => simp [intOf]; omega
      · obtain rfl : k = n := by omega
        go_wp2
        go_end0
        exact ⟨rfl, HG.out⟩
/-- A write into an own block of before leaves what is younger. -/
theorem Mine.apart {b : Nat} {w w' : World} {v : Value} {l : List Pr} {row : Option Nat} (h : Mine b w v l) (hg : w.grownBy w' row) (hr : ∀ k, row = some k → k < b) : Mine b w' v l := by
  have hl := h.lt
  unfold Mine at h ⊢
  refine h.kept hg ?_
  cases hv : v.ownBlock with
  | none => exact .inl rfl
  | some k => exact .inr (fun e => by
      have h1 := hl k hv
      have h2 := hr k e.symm
      omega)
theorem grown_from {b : Nat} {w w' : World} {row : Option Nat} (hg : w.grownBy w' row) (hr : ∀ k, row = some k → b ≤ k) (hb : b ≤ w.heap.size) : Below b w w' :=
  (Below.refl b w).grown hg hb hr
theorem Mine.blk {b : Nat} {w : World} {v : Value} {l : List Pr} (h : Mine b w v l) : ∀ k, v.ownBlock = some k → b ≤ k ∧ k < w.heap.size := fun k hk => by
  unfold Mine at h
  exact h.lt k hk
theorem turn_mine {b : Nat} {w : World} {v : Value} {l : List Pr} (h : Mine b w v l) (ln : l.length ≤ 4611686018427387904) :
    Calls Try.prog 16 #[v] w fun e w' => e = .returned (.tuple #[]) ∧ w.grownBy w' v.ownBlock := turn_any v l.length _ b w h ln
theorem fine_mine {b : Nat} {w : World} {l : List Ow} {M : List Co} (h : ∀ x, x ∈ M → Mine b w x.p x.o.r.l) (hl : ows M = l) (h8 : M.length = 8) (hn : roomO l) : Fine w M :=
  ⟨h8, fun x hx => ⟨(h x hx).pin, hn x.o (by subst hl; exact List.mem_map.2 ⟨x, hx, rfl⟩)⟩⟩
theorem zero_room : roomO (ows zeroL) := fine_room (zero_fine default)
end Go.Proofs.Ytjadbppcjndmlaa
