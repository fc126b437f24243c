/- Crash of the program's disk. Conditions: the picks lie apart from the disk and are ints; the files have room in a slice. -/
import Derived.Test.YtllgjbkmemheoaaTear
import Derived.LoopTactic
namespace Go.Proofs.Ytllgjbkmemheoaa
open Go.RowKit Go.Maps
/-- A call without an answer: the disk behind it. -/
def Chu (S : Nat → Prop) (w : World) (g : Nat) (d : DS) (e : Ending) (w' : World) : Prop := e = .returned (.tuple #[]) ∧ ∃ S', Dk S' w' g d ∧ Own S w S' w'
section
variable {S : Nat → Prop} {w w' : World} {g : Nat} {d : DS} {ps : List Int} {N A : Option Addr}
theorem dok_cells {d e : DS} (h : DOk d) (hq : e.q = d.q) (hl : e.l = d.l) (hf : -1 ≤ e.left ∧ e.left ≤ 9223372036854775807) : DOk e :=
  ⟨by rw [hl]; exact h.up, by rw [hq]; exact h.q, by rw [hl, hq]; exact h.tot, by rw [hl]; exact h.kp, by rw [hl]; exact h.nm, by rw [hl]; exact h.oct, hf⟩
/-- What is left to do behind the loop. -/
theorem Cr.done (h : Cr S w g d ps N A d.l.length w') : ∃ b lf, w'.cell? ⟨g, 2, none⟩ = some (.int .i64 lf) ∧ w'.cell? ⟨g, 3, none⟩ = some (.bool b) ∧ w'.frozen? ⟨g, 2, none⟩ = false ∧ w'.frozen? ⟨g, 3, none⟩ = false ∧
    Chu S w g (craS d ps) (.returned (.tuple #[])) ((w'.setCell ⟨g, 2, none⟩ (.int .i64 (-1))).setCell ⟨g, 3, none⟩ (.bool false)) := by
  obtain ⟨S', ⟨b, lf, loc, hD⟩, hO, _, _⟩ := h.disk
  rw [torn_all] at hD
  have hg := grown_put (grown_put (grown_refl w' (some g)) 2 (.int .i64 (-1))) 3 (.bool false)
  refine ⟨_, lf, hD.row.cell 2, hD.row.cell 3, hD.row.free 2, hD.row.free 3, rfl, S', ⟨b, -1, loc, hD.cells (e := craS d ps) (m := -1) hg ((hD.row.put 2 (.int .i64 (-1))).put 3 (.bool false)) ⟨rfl, by omega, by omega⟩ rfl (dok_cells hD.ok rfl rfl (by unfold craS; simp only; omega))⟩, ?_⟩
  exact ⟨hO.turn.trans (Turn.of_grown (S := S') hg (fun k e => by injection e with e; rw [← e]; exact hD.sg)) hO.new, hO.new⟩
set_option maxRecDepth 100000 in
set_option maxHeartbeats 2000000 in
theorem crash_any (n c : Nat) (h : Dk S w g d) (hln : d.l.length ≤ 1000000) (hp : LiesI w A ps) (hpn : ps.length = n) (hpx : n ≤ 4611686018427387904) (hout : Out S A ps) (hpb : ∀ p, p ∈ ps → -9223372036854775808 ≤ p ∧ p ≤ 9223372036854775807) :
    Calls Try.prog 13 #[.pointer (some ⟨g, 0, none⟩), .slice A n c] w (Chu S w g (craS d ps)) := by
  subst hpn
  have hN := hide (names_any g d w h hln)
  have hok := hide h.ok
  have hb := hide (pick_bound hpb)
  have START := hide (show ∀ N w1, Below w.heap.size w w1 → Strs w1 N (nms d.l) → (0 < d.l.length → ∀ b off, N = some ⟨b, off, none⟩ → w.heap.size ≤ b) → Cr S w g d ps N A 0 w1 from fun N w1 hb hs hf =>
    ⟨⟨S, h.below hb, ⟨Turn.of_below hb, fun _ hk => .inl hk⟩, hout, fun b off e hl k => by have := hf hl b off e; have := h.lt b k; omega⟩, hs, hp.below hb⟩)
  clear h hp hout hpb
  go_enter Try.func13, Try.ntmps13
  go_wp2_with (go_at_call 26; (with_reducible refine hN.out.mono ?_); rintro e w1 ⟨N, cN, rfl, hcN, hS, hbw, hfr⟩; have HS := hide (START.out N w1 hbw hS hfr); clear hS hbw hfr START)
  go_loopw [10] (fun i wr => ∃ k : Nat, k ≤ d.l.length ∧ i = .int .i64 k ∧ Hid (Cr S w g d ps N A k wr)) (fun i _ => d.l.length - (intOf i).toNat)
  case atStart => exact ⟨0, by omega, rfl, HS⟩
  case round =>
    clear HS
    obtain ⟨k, hk, rfl, hC⟩ := hrel
    by_cases hlt : k < d.l.length
    · obtain ⟨x, hx⟩ : ∃ x, d.l[k]? = some x := ⟨_, List.getElem?_eq_getElem hlt⟩
      have hpk := hb.out k
      obtain ⟨b, p, B, cb, ⟨nb, no, rfl, n0⟩, c1, hlk, hrow, hkp, hle, hlx, hB, hend⟩ := hC.out.round hok.out hx
      have HE := hide hend
      have HR := hide hrow
      have HC := hide hC.out.picks
      clear hend hrow hC hx
      by_cases hps : k < ps.length
      · obtain ⟨b1, o1, rfl, _, a0⟩ := HC.out.at_ hps
        have hpi := pick_in ps k
        rw [hpi] at HE hpk
        generalize ix ps k = pk at *
        clear hpi HC
        go_wp2_with (go_at_call 31; (with_reducible refine (tear_any p B _ cb _ _ _ HR.out hkp hle hlx hpk).mono ?_); rintro e w2 ⟨rfl, hr2, hg2⟩; have HF := hide (HE.out w2 hr2 hg2); clear hr2 hg2 HE HR)
        go_roundw
        case rel => exact ⟨k + 1, by omega, by go_num, HF⟩
        case measure => simp [intOf]; omega
      · have hpi := pick_out ps (k := k) (by omega)
        rw [hpi] at HE hpk
        clear hpi HC
        go_wp2_with (go_at_call 31; (with_reducible refine (tear_any p B _ cb _ _ _ HR.out hkp hle hlx hpk).mono ?_); rintro e w2 ⟨rfl, hr2, hg2⟩; have HF := hide (HE.out w2 hr2 hg2); clear hr2 hg2 HE HR)
        go_roundw
        case rel => exact ⟨k + 1, by omega, by go_num, HF⟩
        case measure => simp [intOf]; omega
    · obtain rfl : k = d.l.length := by omega
      obtain ⟨b, lf, c2, c3, f2, f3, hch⟩ := hC.out.done
      have HCH := hide hch
      clear hC hch
      go_wp2
      go_end0
      exact HCH.out
end
end Go.Proofs.Ytllgjbkmemheoaa
