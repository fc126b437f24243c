/- The document's Replies: are two replies the same. Conditions: their pairs lie in memory, their numbers have room. -/
import Derived.Test.YtjadbppcjndmlaaRz
namespace Go.Proofs.Ytjadbppcjndmlaa
open Go.RowKit
theorem int_ne (x y : Int) : (x != y) = !decide (x = y) := by rw [Bool.eq_iff_iff]; simp
theorem nat_ne (x y : Nat) : ((x : Int) != (y : Int)) = !decide (x = y) := by rw [Bool.eq_iff_iff]; simp; omega
theorem re_ne {a b : Re} (h : a.why ≠ b.why ∨ a.fnd ≠ b.fnd ∨ eqB a.val b.val = false ∨ a.ver ≠ b.ver ∨ a.l ≠ b.l) : decide (a = b) = false := decide_eq_false fun e => by
  subst e
  rcases h with h | h | h | h | h
  · exact h rfl
  · exact h rfl
  · rw [(eq_iff _ _).2 rfl] at h; cases h
  · exact h rfl
  · exact h rfl
theorem re_eq {a b : Re} (h0 : a.why = b.why) (h1 : a.fnd = b.fnd) (h2 : eqB a.val b.val = true) (h3 : a.ver = b.ver) (h4 : a.l = b.l) : decide (a = b) = true := decide_eq_true (by
  obtain ⟨_, _, _, _, _⟩ := a
  obtain ⟨_, _, _, _, _⟩ := b
  have := (eq_iff _ _).1 h2
  simp_all)
/-- Two replies boxed. -/
structure Bb (W w : World) (g : Nat) (a b : Re) (p q : Value) : Prop where
  r1 : Row w g 25 #[.int .i64 a.why, .bool a.fnd, .string a.val, .int .i64 a.ver, p]
  r2 : Row w (g + 1) 25 #[.int .i64 b.why, .bool b.fnd, .string b.val, .int .i64 b.ver, q]
  l1 : Pin w p a.l
  l2 : Pin w q b.l
  old : Below W.heap.size W w
theorem Bb.new {w : World} {a b : Re} {p q : Value} (ha : Pin w p a.l) (hb : Pin w q b.l) : Bb w ((w.alloc (.cells #[.int .i64 a.why, .bool a.fnd, .string a.val, .int .i64 a.ver, p] 25)).alloc (.cells #[.int .i64 b.why, .bool b.fnd, .string b.val, .int .i64 b.ver, q] 25)) w.heap.size a b p q := by
  have k1 := kept_alloc (kept_refl w) (.cells #[.int .i64 a.why, .bool a.fnd, .string a.val, .int .i64 a.ver, p] 25)
  have k2 := kept_alloc k1 (.cells #[.int .i64 b.why, .bool b.fnd, .string b.val, .int .i64 b.ver, q] 25)
  have R2 := Row.new (w.alloc (.cells #[.int .i64 a.why, .bool a.fnd, .string a.val, .int .i64 a.ver, p] 25)) 25 #[.int .i64 b.why, .bool b.fnd, .string b.val, .int .i64 b.ver, q]
  have hs : (w.alloc (.cells #[.int .i64 a.why, .bool a.fnd, .string a.val, .int .i64 a.ver, p] 25)).heap.size = w.heap.size + 1 := by simp
  rw [hs] at R2
  exact ⟨(Row.new w _ _).alloc _, R2, ha.below k2, hb.below k2, k2⟩
theorem Bb.drewN {W w : World} {g : Nat} {a b : Re} {p q : Value} (h : Bb W w g a b p q) (n : Nat) : Bb W (w.drewN n) g a b p q := ⟨h.r1.drewN n, h.r2.drewN n, h.l1.below (kept_drewN (kept_refl w) n), h.l2.below (kept_drewN (kept_refl w) n), kept_drewN h.old n⟩
set_option maxRecDepth 100000 in
set_option maxHeartbeats 8000000 in
theorem replies_any (a b : Re) (p q : Value) (w : World) (ha : Pin w p a.l) (hb : Pin w q b.l) (la : a.l.length ≤ 4611686018427387904) (lb : b.l.length ≤ 4611686018427387904) :
    Calls Try.prog 13 #[.agg #[.int .i64 a.why, .bool a.fnd, .string a.val, .int .i64 a.ver, p], .agg #[.int .i64 b.why, .bool b.fnd, .string b.val, .int .i64 b.ver, q]] w fun e w' => e = .returned (.bool (decide (a = b))) ∧ Below w.heap.size w w' := by
  have HN := hide (Bb.new ha hb)
  obtain ⟨A, c, rfl, hA, hc, hcc, hl⟩ := ha
  obtain ⟨B, d, rfl, hB, hd, hdd, hm⟩ := hb
  clear hl hm
  obtain ⟨why, fnd, val, ver, l⟩ := a
  obtain ⟨why', fnd', val', ver', m⟩ := b
  dsimp only at *
  by_cases h0 : why = why'
  case neg =>
    rw [re_ne (.inl h0)]
    have e0 := int_ne why why'
    rw [decide_eq_false h0] at e0
    clear h0
    go_enter Try.func13, Try.ntmps13
    go_wp2
    go_ret
    exact ⟨rfl, HN.out.old⟩
  subst h0
  by_cases h1 : fnd = fnd'
  case neg =>
    rw [re_ne (.inr (.inl h1))]
    cases fnd <;> cases fnd' <;> first | exact absurd rfl h1 | skip
    all_goals
      clear h1
      go_enter Try.func13, Try.ntmps13
      go_wp2
      go_ret
      exact ⟨rfl, HN.out.old⟩
  subst h1
  by_cases h2 : eqB val val' = true
  case neg =>
    rw [re_ne (.inr (.inr (.inl (Bool.not_eq_true _ ▸ h2))))]
    have e2 : eqB val val' = false := by simpa using h2
    clear h2
    unfold eqB at e2
    go_enter Try.func13, Try.ntmps13
    go_wp2
    go_ret
    exact ⟨rfl, HN.out.old⟩
  obtain rfl := (eq_iff _ _).1 h2
  clear h2
  by_cases h3 : ver = ver'
  case neg =>
    rw [re_ne (.inr (.inr (.inr (.inl h3))))]
    have e3 := int_ne ver ver'
    rw [decide_eq_false h3] at e3
    clear h3
    go_enter Try.func13, Try.ntmps13
    go_wp2
    go_ret
    exact ⟨rfl, HN.out.old⟩
  subst h3
  by_cases h4 : l.length = m.length
  case neg =>
    rw [re_ne (.inr (.inr (.inr (.inr fun e => h4 (congrArg List.length e)))))]
    have e4 := nat_ne l.length m.length
    rw [decide_eq_false h4] at e4
    clear h4
    go_enter Try.func13, Try.ntmps13
    go_wp2
    go_ret
    exact ⟨rfl, HN.out.old⟩
  have e4 := nat_ne l.length m.length
  rw [decide_eq_true h4] at e4
  have HL := hide h4
  clear h4
  go_enter Try.func13, Try.ntmps13
  go_upto_region 3 with (fail)
  generalize (w.alloc (.cells #[.int .i64 why, .bool fnd, .string val, .int .i64 ver, .slice A l.length c] 25)).alloc (.cells #[.int .i64 why, .bool fnd, .string val, .int .i64 ver, .slice B m.length d] 25) = w2 at HN ⊢
  have x4 := HN.out.r1.cell 4
  have y4 := HN.out.r2.cell 4
  have HZ : Hid (Prs w2 A l) := hide (by obtain ⟨A', c', e, _, _, _, hp⟩ := HN.out.l1; cases e; exact hp)
  have HY : Hid (Prs w2 B m) := hide (by obtain ⟨A', c', e, _, _, _, hp⟩ := HN.out.l2; cases e; exact hp)
  have HB := hide HN.out.old
  clear HN
  generalize w.heap.size = g at x4 y4 ⊢
  replace x4 : w2.cell? ⟨g, 4, none⟩ = some (.slice A l.length c) := x4
  replace y4 : w2.cell? ⟨g + 1, 4, none⟩ = some (.slice B m.length d) := y4
  go_wp2
  go_loopw [5] (fun i wr => ∃ k q : Nat, k ≤ l.length ∧ i = .int .i64 k ∧ wr = w2.drewN q ∧ Hid (∀ j, j < k → l[j]? = m[j]?)) (fun i _ => l.length - (intOf i).toNat)
  case atStart => exact ⟨0, 0, by omega, rfl, rfl, fun j hj => absurd hj (by omega)⟩
  case round =>
    obtain ⟨k, q, hk, rfl, rfl, hs⟩ := hrel
    by_cases hlt : k < l.length
    · have hl := HL.out
      have lt1 : k < m.length := by omega
      obtain ⟨x, hx⟩ : ∃ x, l[k]? = some x := ⟨_, List.getElem?_eq_getElem hlt⟩
      obtain ⟨y, hyy⟩ : ∃ x, m[k]? = some x := ⟨_, List.getElem?_eq_getElem lt1⟩
      obtain ⟨b1, o1, rfl, _, c0, c1, c2⟩ := HZ.out.at_ hx
      obtain ⟨b2, o2, rfl, _, d0, d1, d2⟩ := HY.out.at_ hyy
      have heq := neq_pair x y
      have HX := hide hx; have HYY := hide hyy; clear hx hyy hl
      by_cases he : x = y
      · rw [decide_eq_true he] at heq
        have HE := hide he
        clear he
        go_wp2
        go_quiet (fail)
        go_wp2
        go_roundw
        case rel => exact ⟨k + 1, _, by omega, by go_num, rfl, fun j hj => by
          rcases Nat.lt_or_ge j k with h1 | h1
          · exact hs.out j h1
          · obtain rfl : j = k := by omega
            rw [HX.out, HYY.out, HE.out]⟩
        case measure => simp [intOf]; omega
      · rw [decide_eq_false he] at heq
        have HE : Hid (decide ((⟨why, fnd, val, ver, l⟩ : Re) = ⟨why, fnd, val, ver, m⟩) = false) := hide (decide_eq_false fun e => he (by
          injection e with _ _ _ _ e
          subst e
          exact Option.some.inj (HX.out.symm.trans HYY.out)))
        clear he
        go_wp2
        go_quiet (fail)
        go_wp2
        go_ret
        exact ⟨ret_bool HE.out.symm, kept_drewN (kept_drewN HB.out _) _⟩
    · have HE : Hid (decide ((⟨why, fnd, val, ver, l⟩ : Re) = ⟨why, fnd, val, ver, m⟩) = true) := hide (decide_eq_true (by
        congr 1
        apply List.ext_getElem?
        intro j
        rcases Nat.lt_or_ge j k with h1 | h1
        · exact hs.out j h1
        · rw [List.getElem?_eq_none (by omega), List.getElem?_eq_none (by have := HL.out; omega)]))
      go_wp2
      go_ret
      exact ⟨ret_bool HE.out.symm, kept_drewN HB.out _⟩
end Go.Proofs.Ytjadbppcjndmlaa
