/- Put of package deps onto nothing: its contract. Conditions: the bounds of ints. -/
import Derived.Test.YtpngcocmjbkfgaaGetp
import Derived.Test.YtpngcocmjbkfgaaCat
namespace Go.Proofs.Ytpngcocmjbkfgaa
open Go.RowKit
/-- The first k + 1 numbers' bytes. -/
def bytesTo (a : List Int) : Nat → List Int
  | 0 => num7 (ix a 0)
  | k + 1 => bytesTo a k ++ num7 (ix a (k + 1))
theorem bytesTo_len (a : List Int) : ∀ k, 1 + k ≤ (bytesTo a k).length ∧ (bytesTo a k).length ≤ 10 + 10 * k
  | 0 => by have := num7_len (ix a 0); unfold bytesTo; omega
  | k + 1 => by
    have := bytesTo_len a k
    have h7 := num7_len (ix a (k + 1))
    unfold bytesTo
    rw [List.length_append]
    omega
theorem bytesTo_all {a0 a1 a2 a3 a4 a5 a6 a7 : Int} : bytesTo [a0, a1, a2, a3, a4, a5, a6, a7] 7 = encN [a0, a1, a2, a3, a4, a5, a6, a7] := by
  show (((((((num7 a0 ++ num7 a1) ++ num7 a2) ++ num7 a3) ++ num7 a4) ++ num7 a5) ++ num7 a6) ++ num7 a7) = num7 a0 ++ (num7 a1 ++ (num7 a2 ++ (num7 a3 ++ (num7 a4 ++ (num7 a5 ++ (num7 a6 ++ (num7 a7 ++ [])))))))
  simp
theorem own_lower {w : World} {base base' : Nat} {e : TypeId} {size : Nat} {v : Value} {n : Nat} {xs : List Value} (h : w.ownsRow base e size v n xs) (hb : base' ≤ base) : w.ownsRow base' e size v n xs :=
  ⟨h.1, h.2.imp id fun ⟨g, cap, cur, e1, hg, r⟩ => ⟨g, cap, cur, e1, Nat.le_trans hb hg, r⟩⟩
set_option maxRecDepth 100000 in
set_option maxHeartbeats 4000000 in
theorem put_any (a0 a1 a2 a3 a4 a5 a6 a7 : Int) (w : World) (h : Ok8 [a0, a1, a2, a3, a4, a5, a6, a7]) : Calls Try.prog 26 #[.slice none 0 0, .agg #[.int .i64 a0, .int .i64 a1, .int .i64 a2, .int .i64 a3, .int .i64 a4, .int .i64 a5, .int .i64 a6, .int .i64 a7]] w (MadeO w (encN [a0, a1, a2, a3, a4, a5, a6, a7]).length (encN [a0, a1, a2, a3, a4, a5, a6, a7])) := by
  have hk : ∀ k, k < 8 → I64 (ix [a0, a1, a2, a3, a4, a5, a6, a7] k) := fun k hk => h.ok _ (by rw [ix_lt _ (by simpa using hk)]; exact List.getElem_mem _)
  have HK := hide hk
  have o0 : I64 a0 := hk 0 (by omega)
  have HALL := hide (bytesTo_all (a0 := a0) (a1 := a1) (a2 := a2) (a3 := a3) (a4 := a4) (a5 := a5) (a6 := a6) (a7 := a7))
  have hlen := encN_len [a0, a1, a2, a3, a4, a5, a6, a7]
  have hm : (encN [a0, a1, a2, a3, a4, a5, a6, a7]).length ≤ 80 := hlen.2
  generalize encN [a0, a1, a2, a3, a4, a5, a6, a7] = zs at HALL hm ⊢
  have hn0 := hide (fun w => num_nil (m := a0) (ys := bytesTo [a0, a1, a2, a3, a4, a5, a6, a7] 0) (n := (bytesTo [a0, a1, a2, a3, a4, a5, a6, a7] 0).length) w o0.1 o0.2 rfl rfl)
  have hb0 := hide ((Below.refl w.heap.size w).alloc (Nat.le_refl _) (.cells #[.int .i64 a0, .int .i64 a1, .int .i64 a2, .int .i64 a3, .int .i64 a4, .int .i64 a5, .int .i64 a6, .int .i64 a7] 25))
  clear h hk hlen o0
  go_enter Try.func26, Try.ntmps26
  go_upto_region 2 with (go_at_call 34; refine (hn0.out _).mono ?_; rintro e w1 ⟨A, c, rfl, hc, hL, hA, hb⟩)
  have R := hide ((Row.new w 25 #[.int .i64 a0, .int .i64 a1, .int .i64 a2, .int .i64 a3, .int .i64 a4, .int .i64 a5, .int .i64 a6, .int .i64 a7]).below hb (by simp))
  have HB := hide (hb0.out.trans (hb.mono hb0.out.size))
  have HP := hide (And.intro hL (And.intro hA hc))
  obtain ⟨f0, f1, f2, f3, f4, f5, f6, f7⟩ := R.out.eight
  replace f1 : w1.cell? ⟨w.heap.size, 1, none⟩ = some (.int .i64 a1) := f1
  replace f2 : w1.cell? ⟨w.heap.size, 2, none⟩ = some (.int .i64 a2) := f2
  replace f3 : w1.cell? ⟨w.heap.size, 3, none⟩ = some (.int .i64 a3) := f3
  replace f4 : w1.cell? ⟨w.heap.size, 4, none⟩ = some (.int .i64 a4) := f4
  replace f5 : w1.cell? ⟨w.heap.size, 5, none⟩ = some (.int .i64 a5) := f5
  replace f6 : w1.cell? ⟨w.heap.size, 6, none⟩ = some (.int .i64 a6) := f6
  replace f7 : w1.cell? ⟨w.heap.size, 7, none⟩ = some (.int .i64 a7) := f7
  clear f0 hb hL hA hc hb0 hn0 R
  go_wp2
  clear f1 f2 f3 f4 f5 f6 f7
  go_loopw [5, 13] (fun v i wr => ∃ k : Nat, k ≤ 7 ∧ i = .int .i64 k ∧ (∃ A c, v = .slice A (bytesTo [a0, a1, a2, a3, a4, a5, a6, a7] k).length c ∧ Hid (Lies wr A (bytesTo [a0, a1, a2, a3, a4, a5, a6, a7] k) ∧ (A = none → c = 0) ∧ (bytesTo [a0, a1, a2, a3, a4, a5, a6, a7] k).length ≤ c)) ∧ Hid (Below w.heap.size w wr)) (fun _ i _ => 7 - (intOf i).toNat)
  case atStart => exact ⟨0, by omega, rfl, ⟨A, c, rfl, HP⟩, HB⟩
  case round =>
    clear HP HB
    obtain ⟨k, hk, rfl, ⟨A, c, rfl, HP⟩, HB⟩ := hrel
    by_cases hlt : k < 7
    · have hi := index_deps a1 a2 a3 a4 a5 a6 a7 k hlt
      have he : ix [a1, a2, a3, a4, a5, a6, a7] k = ix [a0, a1, a2, a3, a4, a5, a6, a7] (k + 1) := rfl
      rw [he] at hi
      have oi := HK.out (k + 1) (by omega)
      have hbl := bytesTo_len [a0, a1, a2, a3, a4, a5, a6, a7] k
      have hcon := hide (fun w' (hb : w' = wr) => num_use (n := (bytesTo [a0, a1, a2, a3, a4, a5, a6, a7] k).length) (c := c) (w := w') (A := A) (ix [a0, a1, a2, a3, a4, a5, a6, a7] (k + 1)) rfl (hb ▸ HP.out.1) HP.out.2.1 (by omega) oi.1 oi.2)
      have HS : Hid (bytesTo [a0, a1, a2, a3, a4, a5, a6, a7] (k + 1) = bytesTo [a0, a1, a2, a3, a4, a5, a6, a7] k ++ num7 (ix [a0, a1, a2, a3, a4, a5, a6, a7] (k + 1))) := rfl
      clear he oi
      generalize ix [a0, a1, a2, a3, a4, a5, a6, a7] (k + 1) = q at hi hcon HS
      have k7 : (k : Int) < 7 := by omega
      go_wp2_with (go_at_call 34; refine (hcon.out _ rfl).mono ?_; rintro e w2 ⟨A', c', rfl, hc, hL, hA, hb⟩)
      have HB2 := hide (HB.out.trans (hb.mono HB.out.size))
      have HP2 := hide (And.intro hL (And.intro hA hc))
      clear hb hL hA hc
      go_roundw
      case rel => exact ⟨k + 1, by omega, by go_num, ⟨A', c', by rw [HS.out, List.length_append], by rw [HS.out, List.length_append]; exact HP2⟩, HB2⟩
      case measure => simp [intOf]; omega
    · obtain rfl : k = 7 := by omega
      rw [HALL.out] at HP ⊢
      have k7 : ¬ (((7 : Nat) : Int) < 7) := by omega
      have hcon := hide (concat_own none A 0 0 zs.length c wr.heap.size [] zs (wr.alloc (.cells #[.slice none 0 0, .slice A zs.length c] 48)) rfl rfl Lies.none_ (HP.out.1.alloc _) (fun _ => rfl) HP.out.2.1 (by omega) (by simp) ((Row.new _ _ _).cell 0) ((Row.new _ _ _).cell 1))
      rw [Nat.zero_add, List.nil_append] at hcon
      go_wp2_with (go_at_call 35; refine hcon.out.mono ?_; rintro e w2 ⟨v, rfl, ho, hb⟩)
      go_ret
      exact ⟨v, rfl, own_lower ho (by have := HB.out.size; simp; omega), HB.out.trans ((kept_trans (kept_alloc (kept_refl _) _) hb).mono HB.out.size)⟩
end Go.Proofs.Ytpngcocmjbkfgaa
