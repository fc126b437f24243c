/- What the document's RightPairs comes to. Conditions: the list lies in memory, its length has room. -/
import Derived.Test.YtjadbppcjndmlaaRi
namespace Go.Proofs.Ytjadbppcjndmlaa
open Go.RowKit
theorem may_not {l : List Pr} {k : Nat} {p : Pr} (hk : k < l.length) (hp : l[k]? = some p) (h : mayB p = false) : rightB l = false := right_not hk (by
  cases k with
  | zero => rw [ok_zero hp]; exact h
  | succ j =>
    obtain ⟨q, hq⟩ : ∃ q, l[j]? = some q := ⟨_, List.getElem?_eq_getElem (by omega)⟩
    rw [ok_next hp hq, h]; rfl)
set_option maxRecDepth 100000 in
set_option maxHeartbeats 4000000 in
theorem rright_any (v : Value) (l : List Pr) (w : World) (h : Pin w v l) (ln : l.length ≤ 4611686018427387904) :
    Calls Try.prog 20 #[v] w fun e w' => e = .returned (.bool (rightB l)) ∧ ∃ q, w' = w.drewN q := by
  obtain ⟨A, c, rfl, hA, hc, hcc, hl⟩ := h
  have HL := hide hl
  clear hl
  go_enter Try.func20, Try.ntmps20
  go_wp2
  go_loopw [3] (fun i wr => ∃ k q : Nat, k ≤ l.length ∧ i = .int .i64 k ∧ Hid (∀ j, j < k → okAt l j = true) ∧ wr = w.drewN q) (fun i _ => l.length - (intOf i).toNat)
  case atStart => exact ⟨0, 0, by omega, rfl, fun j hj => absurd hj (by omega), rfl⟩
  case round =>
    obtain ⟨k, q, hk, rfl, hs, rfl⟩ := hrel
    by_cases hlt : k < l.length
    · obtain ⟨p, hp⟩ : ∃ p, l[k]? = some p := ⟨_, List.getElem?_eq_getElem hlt⟩
      obtain ⟨b, o, rfl, hbs, c0, c1, c2⟩ := HL.out.at_ hp
      have HP := hide hp
      clear hp
      have hm : mayB p = (!nilB p.k && (decide (p.k.size ≤ 16) && (decide (p.v.size ≤ 64) && decide (1 ≤ p.n)))) := rfl
      have hnil : (p.k.toList == []) = nilB p.k := by unfold nilB; cases p.k.toList <;> rfl
      cases h1 : nilB p.k
      · rw [h1] at hm
        have h1' := h1
        unfold nilB at h1'
        by_cases h2 : p.k.size ≤ 16
        · have h2' : decide ((16 : Int) < (p.k.size : Int)) = false := decide_eq_false (by omega)
          rw [decide_eq_true h2] at hm
          by_cases h3 : p.v.size ≤ 64
          · have h3' : decide ((64 : Int) < (p.v.size : Int)) = false := decide_eq_false (by omega)
            rw [decide_eq_true h3] at hm
            by_cases h4 : 1 ≤ p.n
            · have h4' : decide (p.n < 1) = false := decide_eq_false (by omega)
              rw [decide_eq_true h4] at hm
              have hm : mayB p = true := hm
              rcases Nat.eq_zero_or_pos k with h0 | h0
              · subst h0
                have HE := hide (ok_grow hs.out (by rw [ok_zero HP.out]; exact hm))
                rw [Nat.zero_mul, Nat.add_zero] at c0 c1 c2
                clear hm hs hnil
                go_wp2
                go_quiet (fail)
                go_wp2
                go_roundw
                case rel => exact ⟨0 + 1, _, by omega, by go_num, HE, rfl⟩
                case measure => simp [intOf]; omega
              · obtain ⟨j, rfl⟩ : ∃ j, k = j + 1 := ⟨k - 1, by omega⟩
                obtain ⟨x, hq⟩ : ∃ q, l[j]? = some q := ⟨_, List.getElem?_eq_getElem (by omega)⟩
                obtain ⟨b', o', e', _, d0, _, _⟩ := HL.out.at_ hq
                cases e'
                obtain ⟨k, hk1⟩ : ∃ k, j + 1 = k := ⟨_, rfl⟩
                have hkw : IntKind.i64.wrap ((k : Int) - 1) = (j : Int) := by rw [IntKind.wrap_i64]; omega
                have hk0 : decide (0 < (k : Int)) = true := decide_eq_true (by omega)
                have hkn : decide (0 < k) = true := decide_eq_true (by omega)
                have hjl : j < l.length := by omega
                have hle : Op.bytesLess x.k.toList p.k.toList = ltB x.k p.k := rfl
                cases ht : ltB x.k p.k
                · have HE : Hid (rightB l = false) := hide (right_not hlt (by rw [ok_next HP.out hq, hm, ht]; rfl))
                  rw [ht] at hle
                  rw [hk1] at hlt hk c0 c1 c2 ⊢
                  clear hm hs hq ht HP hnil
                  go_wp2
                  go_quiet (fail)
                  go_wp2
                  go_ret
                  exact ⟨by rw [HE.out]; rfl, q + nq, by rw [World.drewN_drewN]⟩
                · have HE := hide (ok_grow hs.out (by rw [ok_next HP.out hq, hm, ht]; rfl))
                  rw [hk1] at HE
                  rw [ht] at hle
                  rw [hk1] at hlt hk c0 c1 c2 ⊢
                  clear hm hs hq ht HP hnil
                  go_wp2
                  go_quiet (fail)
                  go_wp2
                  go_roundw
                  case rel => exact ⟨k + 1, _, by omega, by go_num, HE, rfl⟩
                  case measure => simp [intOf]; omega
            · have h4' : decide (p.n < 1) = true := decide_eq_true (by omega)
              rw [decide_eq_false h4] at hm
              have HE := hide (may_not hlt HP.out hm)
              clear hm hs hnil
              go_wp2
              go_quiet (fail)
              go_wp2
              go_ret
              exact ⟨by rw [HE.out]; rfl, q + nq, by rw [World.drewN_drewN]⟩
          · have h3' : decide ((64 : Int) < (p.v.size : Int)) = true := decide_eq_true (by omega)
            rw [decide_eq_false h3] at hm
            have HE := hide (may_not hlt HP.out hm)
            clear hm hs hnil
            go_wp2
            go_quiet (fail)
            go_wp2
            go_ret
            exact ⟨by rw [HE.out]; rfl, q + nq, by rw [World.drewN_drewN]⟩
        · have h2' : decide ((16 : Int) < (p.k.size : Int)) = true := decide_eq_true (by omega)
          rw [decide_eq_false h2] at hm
          have HE := hide (may_not hlt HP.out hm)
          clear hm hs hnil
          go_wp2
          go_quiet (fail)
          go_wp2
          go_ret
          exact ⟨by rw [HE.out]; rfl, q + nq, by rw [World.drewN_drewN]⟩
      · rw [h1] at hm
        have h1' := h1
        unfold nilB at h1'
        have HE := hide (may_not hlt HP.out hm)
        clear hm hs hnil
        go_wp2
        go_quiet (fail)
        go_wp2
        go_ret
        exact ⟨by rw [HE.out]; rfl, q + nq, by rw [World.drewN_drewN]⟩
    · obtain rfl : k = l.length := by omega
      have HE : Hid (rightB l = decide ((l.length : Int) ≤ 32)) := hide (by
        by_cases h32 : l.length ≤ 32
        · rw [right_true ⟨h32, hs.out⟩, decide_eq_true (by omega)]
        · rw [right_false (fun hr => h32 hr.1), decide_eq_false (by omega)])
      go_wp2
      go_ret
      exact ⟨by rw [HE.out]; rfl, _, rfl⟩
end Go.Proofs.Ytjadbppcjndmlaa
