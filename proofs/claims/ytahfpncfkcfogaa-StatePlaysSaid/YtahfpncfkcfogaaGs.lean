/- Chapter 13's runs. No condition. -/
import Derived.Test.YtahfpncfkcfogaaGo
import Derived.BigQuiet
namespace Go.Proofs.Ytahfpncfkcfogaa
set_option maxRecDepth 100000
open Go.RowKit
/-- What lies at reply k of a row that begins at ⟨b, off⟩. -/
def RAt (w : World) (b off k : Nat) (r : Re) (p : Value) : Prop := w.cell? ⟨b, off + k * 5, none⟩ = some (.int .i64 r.why) ∧ w.cell? ⟨b, off + k * 5 + 1, none⟩ = some (.bool r.fnd) ∧ w.cell? ⟨b, off + k * 5 + 2, none⟩ = some (.string r.val) ∧ w.cell? ⟨b, off + k * 5 + 3, none⟩ = some (.int .i64 r.ver) ∧ w.cell? ⟨b, off + k * 5 + 4, none⟩ = some p
theorem els_reply {w : World} {A : Option Addr} {R : List Cr} (h : Els 5 w A (crV R)) {k : Nat} {x : Cr} (hx : R[k]? = some x) : ∃ b off, A = some ⟨b, off, none⟩ ∧ b < w.heap.size ∧ RAt w b off k x.r x.p := by
  obtain ⟨b, off, e, hlt, hc⟩ := Els.at_ h (crV_at hx)
  exact ⟨b, off, e, hlt, hc 0 (by omega), hc 1 (by omega), hc 2 (by omega), hc 3 (by omega), hc 4 (by omega)⟩
theorem RAt.below {w w' : World} {b off k : Nat} {r : Re} {p : Value} (h : RAt w b off k r p) (hl : b < w.heap.size) (hb : Below w.heap.size w w') : RAt w' b off k r p :=
  ⟨(hb.cell (p := ⟨b, off + k * 5, none⟩) hl).trans h.1, (hb.cell (p := ⟨b, off + k * 5 + 1, none⟩) hl).trans h.2.1, (hb.cell (p := ⟨b, off + k * 5 + 2, none⟩) hl).trans h.2.2.1, (hb.cell (p := ⟨b, off + k * 5 + 3, none⟩) hl).trans h.2.2.2.1, (hb.cell (p := ⟨b, off + k * 5 + 4, none⟩) hl).trans h.2.2.2.2⟩
theorem Rps.els {b : Nat} {w : World} {v : Value} {R : List Cr} (h : Rps b w v R) : ∃ A c, v = .slice A R.length c ∧ R.length ≤ c ∧ c ≤ 9223372036854775807 ∧ Els 5 w A (crV R) := by
  obtain ⟨A, c, e, hA, hn, hc, _⟩ := own_form h.row
  subst e
  have hmx : maxLen ≤ 9223372036854775807 := by unfold maxLen; omega
  exact ⟨A, c, rfl, hn, Nat.le_trans hc hmx, (els_own h.row (crV_all R) (by decide)).1⟩
theorem results_row {fn : Func} {tmps : Array Value} {w : World} {a h : Nat} {t : TypeId} {x : Cm} (hf : fn.results = #[.cell a 35]) (ht : tmps[a]? = some (.pointer (some ⟨h, 0, none⟩))) (hr : Row w h t (rowC x)) :
    (results fn tmps).run Try.prog w = .ok (valC x) w := by
  obtain ⟨c0, c1, c2, c3, c4, c5, c6⟩ := hr.cells7
  simp [results, hf, ht, go_sem, valC, c0, c1, c2, c3, c4, c5, c6]
theorem seven_put {a b c d e f g u0 u1 u2 u3 u4 u5 u6 : Value} : (((((((#[a, b, c, d, e, f, g] : Array Value).setIfInBounds 0 u0).setIfInBounds 1 u1).setIfInBounds 2 u2).setIfInBounds 3 u3).setIfInBounds 4 u4).setIfInBounds 5 u5).setIfInBounds 6 u6 = #[u0, u1, u2, u3, u4, u5, u6] := by
  simp
/-- All seven cells are written. -/
theorem Row.seven {w : World} {h : Nat} {t : TypeId} {x : Cm} (r : Row w h t (rowC x)) (u0 u1 u2 u3 u4 u5 u6 : Value) :
    Row (((((((w.setCell ⟨h, 0, none⟩ u0).setCell ⟨h, 1, none⟩ u1).setCell ⟨h, 2, none⟩ u2).setCell ⟨h, 3, none⟩ u3).setCell ⟨h, 4, none⟩ u4).setCell ⟨h, 5, none⟩ u5).setCell ⟨h, 6, none⟩ u6) h t #[u0, u1, u2, u3, u4, u5, u6] := by
  have z := ((((((r.put 0 u0).put 1 u1).put 2 u2).put 3 u3).put 4 u4).put 5 u5).put 6 u6
  unfold rowC at z
  rw [seven_put] at z
  exact z
theorem short_any (A : Option Addr) (n c : Nat) (w : World) (hc : n ≤ c) (hcc : c ≤ 9223372036854775807) :
    Calls Try.prog 14 #[.slice A n c] w fun e w' => e = .returned (.slice A (min n 60) c) ∧ w = w' := by
  by_cases h : 60 < n
  · have hd : decide ((60 : Int) < (n : Int)) = true := decide_eq_true (by omega)
    have h60 : (60 : Int) ≤ (c : Int) := by omega
    rw [Nat.min_eq_right (by omega)]
    go_enter Try.func14, Try.ntmps14
    go_wp2
    go_ret
    exact ⟨rfl, rfl⟩
  · have hd : decide ((60 : Int) < (n : Int)) = false := decide_eq_false (by omega)
    rw [Nat.min_eq_left (by omega)]
    go_enter Try.func14, Try.ntmps14
    go_wp2
    go_ret
    exact ⟨rfl, rfl⟩
set_option maxHeartbeats 4000000 in
theorem lof_any (k c q : Int) (a o v : ByteArray) (w : World) :
    Calls Try.prog 12 #[.int .i64 k, .int .i64 c, .int .i64 q, .string a, .string o, .string v] w fun e w' => e = .returned (.agg #[.int .i64 k, .int .i64 c, .int .i64 q, .string a, .string { data := #[] }, .string o, .string v]) ∧ Below w.heap.size w w' := by
  have R := Row.new w 35 #[.int .i64 0, .int .i64 0, .int .i64 0, .string { data := #[] }, .string { data := #[] }, .string { data := #[] }, .string { data := #[] }]
  have HB := hide (kept_alloc (kept_refl w) (.cells #[.int .i64 0, .int .i64 0, .int .i64 0, .string { data := #[] }, .string { data := #[] }, .string { data := #[] }, .string { data := #[] }] 35))
  go_enter Try.func12, Try.ntmps12
  go_upto_region 1 with (fail)
  generalize w.alloc (.cells #[.int .i64 0, .int .i64 0, .int .i64 0, .string { data := #[] }, .string { data := #[] }, .string { data := #[] }, .string { data := #[] }] 35) = w1 at R HB ⊢
  obtain ⟨c0, c1, c2, c3, c4, c5, c6⟩ := (seven_of (x := ⟨0, 0, 0, { data := #[] }, { data := #[] }, { data := #[] }, { data := #[] }⟩) R).cells
  dsimp only at c0 c1 c2 c3 c4 c5 c6
  have f0 := R.free 0
  have f1 := R.free 1
  have f2 := R.free 2
  have f3 := R.free 3
  have f4 := R.free 4
  have f5 := R.free 5
  have f6 := R.free 6
  have HR := hide R
  clear R
  go_wp2
  have HS := Row.seven (x := ⟨0, 0, 0, { data := #[] }, { data := #[] }, { data := #[] }, { data := #[] }⟩) HR.out (.int .i64 k) (.int .i64 c) (.int .i64 q) (.string a) (.string { data := #[] }) (.string o) (.string v)
  exact bodyPost_ret (results_row (x := ⟨k, c, q, a, { data := #[] }, o, v⟩) Try.results12 rfl HS) rfl ⟨rfl, ((((((HB.out.setCell (p := ⟨w.heap.size, 0, none⟩) (Nat.le_refl _) _).setCell (p := ⟨w.heap.size, 1, none⟩) (Nat.le_refl _) _).setCell (p := ⟨w.heap.size, 2, none⟩) (Nat.le_refl _) _).setCell (p := ⟨w.heap.size, 3, none⟩) (Nat.le_refl _) _).setCell (p := ⟨w.heap.size, 4, none⟩) (Nat.le_refl _) _).setCell (p := ⟨w.heap.size, 5, none⟩) (Nat.le_refl _) _).setCell (p := ⟨w.heap.size, 6, none⟩) (Nat.le_refl _) _⟩
theorem runs_play (w : World) : Calls Try.prog 11 #[.agg #[.slice none 0 0, .int .i64 0, .int .i64 0, .bool false, .string { data := #[] }, .int .i64 0, .slice none 0 0, .int .i64 0, .int .i64 0, .bool false, .string { data := #[] }, .int .i64 0, .slice none 0 0, .int .i64 0, .int .i64 0, .bool false, .string { data := #[] }, .int .i64 0, .slice none 0 0, .int .i64 0, .int .i64 0, .bool false, .string { data := #[] }, .int .i64 0, .slice none 0 0, .int .i64 0, .int .i64 0, .bool false, .string { data := #[] }, .int .i64 0, .slice none 0 0, .int .i64 0, .int .i64 0, .bool false, .string { data := #[] }, .int .i64 0, .slice none 0 0, .int .i64 0, .int .i64 0, .bool false, .string { data := #[] }, .int .i64 0, .slice none 0 0, .int .i64 0, .int .i64 0, .bool false, .string { data := #[] }, .int .i64 0, .slice none 0 0], .slice (some ⟨w.heap.size, 0, none⟩) 8 8] (w.alloc (.cells #[.int .i64 2, .int .i64 1, .int .i64 1, .string { data := #[97] }, .string { data := #[] }, .string { data := #[] }, .string { data := #[49] }, .int .i64 2, .int .i64 1, .int .i64 1, .string { data := #[97] }, .string { data := #[] }, .string { data := #[] }, .string { data := #[49] }, .int .i64 1, .int .i64 2, .int .i64 1, .string { data := #[97] }, .string { data := #[] }, .string { data := #[] }, .string { data := #[] }, .int .i64 2, .int .i64 1, .int .i64 0, .string { data := #[98] }, .string { data := #[] }, .string { data := #[] }, .string { data := #[] }, .int .i64 4, .int .i64 1, .int .i64 2, .string { data := #[97] }, .string { data := #[] }, .string { data := #[49] }, .string { data := #[50] }, .int .i64 4, .int .i64 1, .int .i64 3, .string { data := #[97] }, .string { data := #[] }, .string { data := #[49] }, .string { data := #[51] }, .int .i64 3, .int .i64 1, .int .i64 4, .string { data := #[97] }, .string { data := #[] }, .string { data := #[] }, .string { data := #[] }, .int .i64 2, .int .i64 1, .int .i64 2, .string { data := #[97] }, .string { data := #[] }, .string { data := #[] }, .string { data := #[57] }] 35)) (AnsP (w.alloc (.cells #[.int .i64 2, .int .i64 1, .int .i64 1, .string { data := #[97] }, .string { data := #[] }, .string { data := #[] }, .string { data := #[49] }, .int .i64 2, .int .i64 1, .int .i64 1, .string { data := #[97] }, .string { data := #[] }, .string { data := #[] }, .string { data := #[49] }, .int .i64 1, .int .i64 2, .int .i64 1, .string { data := #[97] }, .string { data := #[] }, .string { data := #[] }, .string { data := #[] }, .int .i64 2, .int .i64 1, .int .i64 0, .string { data := #[98] }, .string { data := #[] }, .string { data := #[] }, .string { data := #[] }, .int .i64 4, .int .i64 1, .int .i64 2, .string { data := #[97] }, .string { data := #[] }, .string { data := #[49] }, .string { data := #[50] }, .int .i64 4, .int .i64 1, .int .i64 3, .string { data := #[97] }, .string { data := #[] }, .string { data := #[49] }, .string { data := #[51] }, .int .i64 3, .int .i64 1, .int .i64 4, .string { data := #[97] }, .string { data := #[] }, .string { data := #[] }, .string { data := #[] }, .int .i64 2, .int .i64 1, .int .i64 2, .string { data := #[97] }, .string { data := #[] }, .string { data := #[] }, .string { data := #[57] }] 35)) (playP zeroS cms8)) := by
  rw [zero_state]
  exact play_any (.slice none 0 0) zeroL zeroS _ 8 8 cms8 _ (IsS.zero _) (els_row (Row.new w _ #[.int .i64 2, .int .i64 1, .int .i64 1, .string { data := #[97] }, .string { data := #[] }, .string { data := #[] }, .string { data := #[49] }, .int .i64 2, .int .i64 1, .int .i64 1, .string { data := #[97] }, .string { data := #[] }, .string { data := #[] }, .string { data := #[49] }, .int .i64 1, .int .i64 2, .int .i64 1, .string { data := #[97] }, .string { data := #[] }, .string { data := #[] }, .string { data := #[] }, .int .i64 2, .int .i64 1, .int .i64 0, .string { data := #[98] }, .string { data := #[] }, .string { data := #[] }, .string { data := #[] }, .int .i64 4, .int .i64 1, .int .i64 2, .string { data := #[97] }, .string { data := #[] }, .string { data := #[49] }, .string { data := #[50] }, .int .i64 4, .int .i64 1, .int .i64 3, .string { data := #[97] }, .string { data := #[] }, .string { data := #[49] }, .string { data := #[51] }, .int .i64 3, .int .i64 1, .int .i64 4, .string { data := #[97] }, .string { data := #[] }, .string { data := #[] }, .string { data := #[] }, .int .i64 2, .int .i64 1, .int .i64 2, .string { data := #[97] }, .string { data := #[] }, .string { data := #[] }, .string { data := #[57] }]) (cmV_all cms8) rfl) rfl List.Pairwise.nil (by decide)
def wantR : List Cr := want8.map fun r => ⟨r, none, 0⟩
theorem want_els (w : World) : Els 5 (w.alloc (.cells #[.int .i64 0, .bool false, .string { data := #[] }, .int .i64 1, .slice none 0 0, .int .i64 0, .bool false, .string { data := #[] }, .int .i64 1, .slice none 0 0, .int .i64 0, .bool true, .string { data := #[49] }, .int .i64 1, .slice none 0 0, .int .i64 1, .bool false, .string { data := #[] }, .int .i64 0, .slice none 0 0, .int .i64 0, .bool true, .string { data := #[49] }, .int .i64 2, .slice none 0 0, .int .i64 0, .bool false, .string { data := #[50] }, .int .i64 2, .slice none 0 0, .int .i64 0, .bool true, .string { data := #[] }, .int .i64 2, .slice none 0 0, .int .i64 9, .bool false, .string { data := #[] }, .int .i64 0, .slice none 0 0] 25)) (some ⟨w.heap.size, 0, none⟩) (crV wantR) := els_row (Row.new w _ #[.int .i64 0, .bool false, .string { data := #[] }, .int .i64 1, .slice none 0 0, .int .i64 0, .bool false, .string { data := #[] }, .int .i64 1, .slice none 0 0, .int .i64 0, .bool true, .string { data := #[49] }, .int .i64 1, .slice none 0 0, .int .i64 1, .bool false, .string { data := #[] }, .int .i64 0, .slice none 0 0, .int .i64 0, .bool true, .string { data := #[49] }, .int .i64 2, .slice none 0 0, .int .i64 0, .bool false, .string { data := #[50] }, .int .i64 2, .slice none 0 0, .int .i64 0, .bool true, .string { data := #[] }, .int .i64 2, .slice none 0 0, .int .i64 9, .bool false, .string { data := #[] }, .int .i64 0, .slice none 0 0]) (crV_all wantR) rfl
set_option maxHeartbeats 8000000 in
theorem runs_any (w : World) : Calls Try.prog 3 #[] w fun e w' => e = .returned (.bool true) ∧ Below w.heap.size w w' := by
  have HB := hide (kept_refl w)
  go_enter Try.func3, Try.ntmps3
  go_upto_region 2 with (first
    | (go_at_call 12; (with_reducible refine (lof_any _ _ _ _ _ _ _).mono ?_); rintro e w1 ⟨rfl, hb⟩; replace HB := hide (kept_trans HB.out hb); clear hb)
    | (go_at_call 11; (with_reducible refine (runs_play _).mono ?_); rintro e w2 ⟨p, M, v, R, rfl, hn, hr, hi, hb⟩; replace HB := hide (kept_trans (kept_alloc HB.out _) hb); have H8 := hide hn.eight; have H1 := hide hn.one)
    | ((with_reducible refine wpList_store49n ?_ ?_ H1.out H8.out ?_); rfl; rfl))
  have kb := kept_alloc (kept_refl w2) (.cells (stc p M) 30)
  have HR := hide (hr.below kb)
  have HB2 := hide (kept_trans HB.out kb)
  have HI := hide hi
  clear HB H8 H1 hn hr hi hb kb
  generalize w2.alloc (.cells (stc p M) 30) = w3 at HR HB2 ⊢
  go_upto_region 3 with (fail)
  have kb := kept_alloc (kept_refl w3) (.cells #[.int .i64 0, .bool false, .string { data := #[] }, .int .i64 1, .slice none 0 0, .int .i64 0, .bool false, .string { data := #[] }, .int .i64 1, .slice none 0 0, .int .i64 0, .bool true, .string { data := #[49] }, .int .i64 1, .slice none 0 0, .int .i64 1, .bool false, .string { data := #[] }, .int .i64 0, .slice none 0 0, .int .i64 0, .bool true, .string { data := #[49] }, .int .i64 2, .slice none 0 0, .int .i64 0, .bool false, .string { data := #[50] }, .int .i64 2, .slice none 0 0, .int .i64 0, .bool true, .string { data := #[] }, .int .i64 2, .slice none 0 0, .int .i64 9, .bool false, .string { data := #[] }, .int .i64 0, .slice none 0 0] 25)
  have HR4 := hide (HR.out.below kb)
  have HB4 := hide (kept_trans HB2.out kb)
  have HW := hide (want_els w3)
  clear kb HR HB2
  generalize w3.alloc (.cells #[.int .i64 0, .bool false, .string { data := #[] }, .int .i64 1, .slice none 0 0, .int .i64 0, .bool false, .string { data := #[] }, .int .i64 1, .slice none 0 0, .int .i64 0, .bool true, .string { data := #[49] }, .int .i64 1, .slice none 0 0, .int .i64 1, .bool false, .string { data := #[] }, .int .i64 0, .slice none 0 0, .int .i64 0, .bool true, .string { data := #[49] }, .int .i64 2, .slice none 0 0, .int .i64 0, .bool false, .string { data := #[50] }, .int .i64 2, .slice none 0 0, .int .i64 0, .bool true, .string { data := #[] }, .int .i64 2, .slice none 0 0, .int .i64 9, .bool false, .string { data := #[] }, .int .i64 0, .slice none 0 0] 25) = w4 at HR4 HB4 HW ⊢
  generalize (some ⟨w3.heap.size, 0, none⟩ : Option Addr) = B at HW ⊢
  obtain ⟨A, c, rfl, hc, hcc, HE⟩ := HR4.out.els
  have HEE := hide HE
  have HL : R.length = 8 := by
    have h1 := congrArg List.length HI.out
    rw [List.length_map, playP_len] at h1
    exact h1
  have HI8 := hide (HI.out.trans play_8)
  rw [HL] at hc ⊢
  clear HE
  go_wp2
  go_loopw [4] (fun i wr => ∃ k : Nat, k ≤ 8 ∧ i = .int .i64 k ∧ Hid (Below w4.heap.size w4 wr)) (fun i _ => 8 - (intOf i).toNat)
  case atStart => exact ⟨0, by omega, rfl, Below.refl _ _⟩
  case round =>
    obtain ⟨k, hk, rfl, HBR⟩ := hrel
    by_cases hlt : k < 8
    · obtain ⟨x, hx⟩ : ∃ x, R[k]? = some x := ⟨_, List.getElem?_eq_getElem (by rw [HL]; exact hlt)⟩
      obtain ⟨y, hy⟩ : ∃ y, wantR[k]? = some y := ⟨_, List.getElem?_eq_getElem (show k < wantR.length from hlt)⟩
      have exy : x.r = y.r ∧ y.p = .slice none 0 0 ∧ y.r.l = [] := by
        have h1 : (R.map Cr.r)[k]? = some x.r := by rw [List.getElem?_map, hx]; rfl
        rw [HI8.out] at h1
        unfold wantR at hy
        rw [List.getElem?_map, h1] at hy
        have hy : some (⟨x.r, none, 0⟩ : Cr) = some y := hy
        cases hy
        have hl : x.r.l = [] := by
          have hm := List.mem_of_getElem? h1
          unfold want8 at hm
          simp only [List.mem_cons, List.not_mem_nil, or_false] at hm
          rcases hm with e | e | e | e | e | e | e | e <;> rw [e]
        exact ⟨rfl, by unfold Cr.p; rw [hl]; rfl, hl⟩
      obtain ⟨b, off, rfl, hbl, ra⟩ := els_reply (HEE.out.below HBR.out) hx
      obtain ⟨b2, off2, rfl, hbl2, rb⟩ := els_reply (HW.out.below HBR.out) hy
      have HX := hide ((HR4.out.own x (List.mem_of_getElem? hx)).1.below HBR.out)
      have HXL := hide (HR4.out.own x (List.mem_of_getElem? hx)).2
      have RA := hide ra
      have RB := hide rb
      have HEXY := hide exy
      have HBX := hide hbl
      have HBY := hide hbl2
      have hRep := hide (show ∀ wz : World, Below wr.heap.size wr wz → Calls Try.prog 13 #[.agg #[.int .i64 x.r.why, .bool x.r.fnd, .string x.r.val, .int .i64 x.r.ver, .slice x.A x.r.l.length x.c], .agg #[.int .i64 y.r.why, .bool y.r.fnd, .string y.r.val, .int .i64 y.r.ver, .slice none 0 0]] wz fun e w' => e = .returned (.bool true) ∧ Below wz.heap.size wz w' from fun wz hz => by
        have h := replies_any x.r y.r x.p (.slice none 0 0) wz (HX.out.below hz).pin (by rw [HEXY.out.2.2]; exact Pin.nil_ wz) (by have := HXL.out; omega) (by rw [HEXY.out.2.2]; exact Nat.zero_le _)
        rw [decide_eq_true HEXY.out.1] at h
        exact h)
      rw [exy.2.1] at rb RB
      unfold Cr.p at ra RA
      have hlt' : (k : Int) < 8 := by omega
      have hkc : (k : Int) < ((8 : Nat) : Int) := by omega
      clear hx hy exy HX HXL ra rb hbl hbl2 HEXY
      go_upto_region 8 with (fail)
      have HB0 : Below wr.heap.size wr wr := kept_refl wr
      refine wp_region_sp (fun w' => Below wr.heap.size wr w') (by kernel_rfl) (by kernel_rfl) (show Below wr.heap.size wr wr.drew from kept_drewN HB0 1) ?_
      generalize hS : (fun w' => Below wr.heap.size wr w') = S
      have l0 : ∀ s : Sp S, s.w.cell? ⟨b, off + k * 5, none⟩ = some (.int .i64 x.r.why) := by subst hS; exact fun s => (RA.out.below HBX.out s.ok).1
      have l1 : ∀ s : Sp S, s.w.cell? ⟨b, off + k * 5 + 1, none⟩ = some (.bool x.r.fnd) := by subst hS; exact fun s => (RA.out.below HBX.out s.ok).2.1
      have l2 : ∀ s : Sp S, s.w.cell? ⟨b, off + k * 5 + 2, none⟩ = some (.string x.r.val) := by subst hS; exact fun s => (RA.out.below HBX.out s.ok).2.2.1
      have l3 : ∀ s : Sp S, s.w.cell? ⟨b, off + k * 5 + 3, none⟩ = some (.int .i64 x.r.ver) := by subst hS; exact fun s => (RA.out.below HBX.out s.ok).2.2.2.1
      have l4 : ∀ s : Sp S, s.w.cell? ⟨b, off + k * 5 + 4, none⟩ = some (Value.slice x.A x.r.l.length x.c) := by subst hS; exact fun s => (RA.out.below HBX.out s.ok).2.2.2.2
      have l5 : ∀ s : Sp S, s.w.cell? ⟨b2, off2 + k * 5, none⟩ = some (.int .i64 y.r.why) := by subst hS; exact fun s => (RB.out.below HBY.out s.ok).1
      have l6 : ∀ s : Sp S, s.w.cell? ⟨b2, off2 + k * 5 + 1, none⟩ = some (.bool y.r.fnd) := by subst hS; exact fun s => (RB.out.below HBY.out s.ok).2.1
      have l7 : ∀ s : Sp S, s.w.cell? ⟨b2, off2 + k * 5 + 2, none⟩ = some (.string y.r.val) := by subst hS; exact fun s => (RB.out.below HBY.out s.ok).2.2.1
      have l8 : ∀ s : Sp S, s.w.cell? ⟨b2, off2 + k * 5 + 3, none⟩ = some (.int .i64 y.r.ver) := by subst hS; exact fun s => (RB.out.below HBY.out s.ok).2.2.2.1
      have l9 : ∀ s : Sp S, s.w.cell? ⟨b2, off2 + k * 5 + 4, none⟩ = some (Value.slice none 0 0) := by subst hS; exact fun s => (RB.out.below HBY.out s.ok).2.2.2.2
      have ne : Nonempty (Sp S) := by subst hS; exact ⟨⟨_, HB0⟩⟩
      have STEP := hide (show ∀ w w', S w → Below w.heap.size w w' → S w' by subst hS; exact fun _ _ h hb => kept_trans h hb)
      have OLD := hide (show ∀ s : Sp S, Below wr.heap.size wr s.w by subst hS; exact fun s => s.ok)
      clear HB0 hS
      repeat (go_big_quiet_step ((first | (go_at_call 13; with_reducible exact sp_call STEP.out _ (hRep.out _ (OLD.out _))))))
      refine wpQuiet_nil ?_
      intro kk
      have OK := hide (OLD.out kk)
      generalize kk.w = wk at OK ⊢
      clear l0 l1 l2 l3 l4 l5 l6 l7 l8 l9 ne OLD STEP
      generalize wk = wn at OK ⊢
      go_wp2
      go_roundw
      case rel => exact ⟨k + 1, by omega, by go_num, hide (kept_trans HBR.out OK.out)⟩
      case measure => simp [intOf]; omega
    · obtain rfl : k = 8 := by omega
      go_wp2
      go_ret
      exact ⟨rfl, kept_trans HB4.out HBR.out⟩
end Go.Proofs.Ytahfpncfkcfogaa
