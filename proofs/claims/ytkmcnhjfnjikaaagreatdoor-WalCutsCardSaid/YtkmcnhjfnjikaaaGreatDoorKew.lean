/- Along WalKeeps' loop: Add and what it leaves alone, the wanted records anew, a crash. Conditions: as the calls' own. -/
import Derived.Test.YtkmcnhjfnjikaaaGreatDoorKep
namespace Go.Proofs.YtkmcnhjfnjikaaaGreatDoor
open Go.RowKit Go.Maps
/-- Add, with what it leaves alone. -/
theorem Wk.addk {W w w1 : World} {Y Y' : Nat → Prop} {p g : Nat} {d d' : DS} {x x' : WS} {v : Value} {L : List (List Int)} {A : Option Addr} {n c : Nat} {F : List (List Int)} {y : Int} (h : Wk W w Y p g d x v L) (hb : Below w.heap.size w w1) (hr : Recs Y' w1 A c F) (hY : ∀ k, Y' k → Y k ∨ v.ownBlock = some k ∨ (w.heap.size ≤ k ∧ k < w1.heap.size)) (hn : F.length = n) (hl : n ≤ 100000) (hs : ∀ q, q ∈ F → q.length ≤ 1000000)
    (hG : x.G < 99) (hK : x.K < 99) (hln : d.l.length ≤ 80) (hx : adE d x F = y ∧ adS d x F = d' ∧ adW d x F = x') :
    Calls Tryz.prog 12 #[.pointer (some ⟨p, 0, none⟩), .slice A n c] w1 fun e w' => e = .returned (.int .i64 y) ∧ Wk W w' Y p g d' x' v L ∧ Kx (fun k => Y k ∨ v.ownBlock = some k ∨ (w.heap.size ≤ k ∧ k < w1.heap.size)) w1 w' := by
  obtain ⟨rfl, rfl, rfl⟩ := hx
  have hq := h.q.more (Y := fun k => (Y k ∨ v.ownBlock = some k) ∨ (w.heap.size ≤ k ∧ k < w1.heap.size)) hb fun k hk => hk
  exact (add_any hq (by omega) hK (by omega) hr (fun k hk => by rcases hY k hk with z | z | z; exact .inl (.inl z); exact .inl (.inr z); exact .inr z) hn hl hs).mono fun e w2 h2 => ⟨(h.op hb (fun k hk => .inl hk) h2).1, (h.op hb (fun k hk => .inl hk) h2).2, h2.2.2.mono fun k hk => by rcases hk with z | z | z; exact .inl (.inl z); exact .inl (.inr z); exact .inr z⟩
/-- The records that are wanted begin anew, in an empty row made just now. -/
theorem Wk.renew {W w : World} {Y : Nat → Prop} {p g : Nat} {d : DS} {x : WS} {v : Value} {L : List (List Int)} (h : Wk W w Y p g d x v L) : Wk W (w.alloc (.cells #[] 31)) Y p g d x (.slice (some ⟨w.heap.size, 0, none⟩) 0 0) [] := by
  have hb := below_alloc' w (.cells #[] 31)
  have hk : ∀ k, Value.ownBlock (.slice (some ⟨w.heap.size, 0, none⟩) 0 0) = some k → k = w.heap.size := fun k e => by injection e with e; exact e.symm
  refine ⟨kept_trans h.low hb, h.q.more hb fun k hk2 => ?_, ⟨⟨[], ?_, fun j p hj => by simp at hj⟩, fun k e hz => ?_⟩, h.xs⟩
  · rcases hk2 with z | z
    · exact .inl (.inl z)
    · rw [hk k z]; exact .inr ⟨Nat.le_refl _, by simp⟩
  · exact block_own (Nat.zero_le _) (Nat.zero_le _) rfl (Row.new w 31 #[])
  · have := h.small k hz
    rw [hk k e] at this
    omega
/-- A crash of a disk all of which is kept. -/
theorem Wk.crash {W w : World} {Y : Nat → Prop} {p g : Nat} {d : DS} {x : WS} {v : Value} {L : List (List Int)} {A : Option Addr} {n c : Nat} {ps : List Int} (h : Wk W w Y p g d x v L) (hc : craS d ps = d) (hp : IntsIn W A n c ps) (hn : n ≤ 20) (hln : d.l.length ≤ 100) :
    Calls Tryz.prog 24 #[.pointer (some ⟨g, 0, none⟩), .slice A n c] w fun e w' => e = .returned (.tuple #[]) ∧ Wk W w' Y p g d x v L := by
  refine (crash_q h.q.q (by omega) (hp.lies.below h.low) hp.len (by omega) (fun hn2 a ha => ?_) hp.ok).mono fun e w' ⟨h1, h2, h3⟩ => ?_
  · obtain ⟨b, off, e, hlt, _⟩ := hp.lies hn2
    rw [e] at ha; injection ha with ha; subst ha
    exact .inl (.inl (h.xs _ hlt))
  · rw [hc] at h2
    obtain ⟨hq, hk⟩ := h.q.turn h2 h3
    exact ⟨h1, h.low.trans (hk.below h.low.size fun k hk => .inl (h.xs k hk)), hq, h.want.kx hk (fun k hk => .inr hk) (fun k hk => .inl hk), h.xs⟩
end Go.Proofs.YtkmcnhjfnjikaaaGreatDoor
