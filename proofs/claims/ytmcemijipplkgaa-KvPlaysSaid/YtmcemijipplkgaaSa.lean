/- '==' of pairs; concordbook.Same of lists of pairs. Conditions: the slices lie in memory, their lengths have room. -/
import Derived.Test.YtmcemijipplkgaaKw
import Derived.Laws.StructEq
namespace Go.Proofs.Ytmcemijipplkgaa
open Go.RowKit
theorem equal_pair (a b : ByteArray) (n : Int) (a' b' : ByteArray) (n' : Int) (w : World) : (Op.equalIn 10000 29 (.agg #[.string a, .string b, .int .i64 n]) (.agg #[.string a', .string b', .int .i64 n'])).run Try.prog w = .ok (eqB a a' && (eqB b b' && n == n')) w := by
  have u9 := Try.underlying9
  have a9 := Try.isAgg9
  have z9 := Try.sizeOf9
  have u3 := Try.underlying3
  have a3 := Try.isAgg3
  have z3 := Try.sizeOf3
  have hS : Try.prog.underlying 29 = some (.struct (Try.prog.fieldsOf 29)) := by kernel_rfl
  have hp : Try.prog.stoodInHeld 29 = false := by kernel_rfl
  rw [show (10000 : Nat) = 9999 + 1 from rfl, run_equalIn_agg w 9999 29 _ _ hS hp]
  simp only [Program.fieldsOf, Try.underlying29]
  go_simp
  unfold eqB
  cases h1 : (a.toList == a'.toList) <;> simp_all
  cases h2 : (b.toList == b'.toList) <;> simp_all
  cases h3 : (n == n') <;> simp_all
theorem pair_iff (p q : Pr) : (eqB p.k q.k && (eqB p.v q.v && p.n == q.n)) = decide (p = q) := by
  obtain ⟨a, b, n⟩ := p
  obtain ⟨a', b', n'⟩ := q
  rw [Bool.eq_iff_iff]
  simp [eq_iff]
theorem eql_pair (p q : Pr) (w : World) : (binOp .eql 29 (.agg #[.string p.k, .string p.v, .int .i64 p.n]) (.agg #[.string q.k, .string q.v, .int .i64 q.n])).run Try.prog w = .ok (.bool (decide (p = q))) w := by
  rw [run_eql_struct, equal_pair, pair_iff]; rfl
theorem neq_pair (p q : Pr) (w : World) : (binOp .neq 29 (.agg #[.string p.k, .string p.v, .int .i64 p.n]) (.agg #[.string q.k, .string q.v, .int .i64 q.n])).run Try.prog w = .ok (.bool (!decide (p = q))) w := by
  rw [run_neq_struct, equal_pair, pair_iff]; rfl
set_option maxHeartbeats 1000000 in
theorem same_any (A B : Option Addr) (n m c d : Nat) (zs ys : List Pr) (w : World) (hn : zs.length = n) (hm : ys.length = m) (hz : Prs w A zs) (hy : Prs w B ys) (ln : n ≤ 4611686018427387904) (lm : m ≤ 4611686018427387904) :
    Calls Try.prog 13 #[.slice A n c, .slice B m d] w fun e w' => e = .returned (.bool (decide (zs = ys))) ∧ ∃ q, w' = w.drewN q := by
  subst hn hm
  by_cases hl : zs.length = ys.length
  · have hb : ((zs.length : Int) != (ys.length : Int)) = false := by rw [hl]; simp
    have HL := hide hl
    clear hl
    go_enter Try.func13, Try.ntmps13
    go_wp2
    go_loopw [5] (fun i wr => ∃ k q : Nat, k ≤ zs.length ∧ i = .int .i64 k ∧ wr = w.drewN q ∧ Hid (∀ j, j < k → zs[j]? = ys[j]?)) (fun i _ => zs.length - (intOf i).toNat)
    case atStart => exact ⟨0, 0, by omega, rfl, rfl, fun j hj => absurd hj (by omega)⟩
    case round =>
      obtain ⟨k, q, hk, rfl, rfl, hs⟩ := hrel
      by_cases hlt : k < zs.length
      · have hl := HL.out
        obtain ⟨x, hx⟩ : ∃ x, zs[k]? = some x := ⟨_, List.getElem?_eq_getElem hlt⟩
        obtain ⟨y, hyy⟩ : ∃ x, ys[k]? = some x := ⟨_, List.getElem?_eq_getElem (by omega)⟩
        obtain ⟨b1, o1, rfl, _, c0, c1, c2⟩ := hz.at_ hx
        obtain ⟨b2, o2, rfl, _, d0, d1, d2⟩ := hy.at_ hyy
        have heq := neq_pair x y
        have lt1 : k < ys.length := by omega
        have Hz := hide hz; have Hy := hide hy; have HX := hide hx; have HY := hide hyy; clear hz hy hx hyy hl
        by_cases he : x = y
        · rw [decide_eq_true he] at heq
          have HE := hide he
          clear he
          go_wp2
          go_quiet (fail)
          go_wp2
          go_roundw
          case rel => exact ⟨k + 1, _, by omega, by go_num, rfl, fun j hj => by
            rcases Nat.lt_or_ge j k with h1 | h1
            · exact hs.out j h1
            · obtain rfl : j = k := by omega
              rw [HX.out, HY.out, HE.out]⟩
          case measure => simp [intOf]; omega
        · rw [decide_eq_false he] at heq
          have HE := hide he
          clear he
          go_wp2
          go_quiet (fail)
          go_wp2
          go_ret
          refine ⟨ret_bool ?_, _, World.drewN_drewN _ _ _⟩
          symm; rw [decide_eq_false_iff_not]; rintro rfl
          have := HX.out.symm.trans HY.out
          exact HE.out (Option.some.inj this)
      · go_wp2
        go_ret
        refine ⟨ret_bool ?_, _, rfl⟩
        symm; rw [decide_eq_true_iff]
        apply List.ext_getElem?
        intro j
        rcases Nat.lt_or_ge j k with h1 | h1
        · exact hs.out j h1
        · rw [List.getElem?_eq_none (by omega), List.getElem?_eq_none (by have := HL.out; omega)]
  · have hb : ((zs.length : Int) != (ys.length : Int)) = true := by simp; omega
    have HL := hide hl
    clear hl
    go_enter Try.func13, Try.ntmps13
    go_wp2
    go_ret
    exact ⟨ret_bool (by symm; rw [decide_eq_false_iff_not]; rintro rfl; exact HL.out rfl), 0, rfl⟩
end Go.Proofs.Ytmcemijipplkgaa
