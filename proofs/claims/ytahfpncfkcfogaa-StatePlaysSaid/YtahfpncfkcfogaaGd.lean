/- A reply in plain words; package dedup's apart, isClient, isZero, isRight; the document's Replies, rightReply. Conditions: its pairs lie in memory, their number has room. -/
import Derived.Test.YtahfpncfkcfogaaGb
import Derived.Deep.MidRow
import Derived.Test.YtahfpncfkcfogaaGc
namespace Go.Proofs.Ytahfpncfkcfogaa
open Go.RowKit
/-- A reply. -/
structure Re where
  why : Int
  fnd : Bool
  val : ByteArray
  ver : Int
  l : List Pr
deriving DecidableEq
def zeroR : Re := ⟨0, false, nilT, 0, []⟩
/-- May a client have the number? -/
def cliB (c : Int) : Bool := decide (1 ≤ c) && decide (c ≤ 8)
theorem cli_any (c : Int) (w : World) : Calls Try.prog 73 #[.int .i64 c] w fun e w' => e = .returned (.bool (cliB c)) ∧ w = w' := by
  by_cases h1 : 1 ≤ c
  · by_cases h2 : c ≤ 8
    · have e : cliB c = true := by unfold cliB; rw [decide_eq_true h1, decide_eq_true h2]; rfl
      rw [e]
      go_enter Try.func73, Try.ntmps73
      go_wp2
      go_ret
      exact ⟨rfl, rfl⟩
    · have e : cliB c = false := by unfold cliB; rw [decide_eq_false h2, Bool.and_false]
      rw [e]
      go_enter Try.func73, Try.ntmps73
      go_wp2
      go_ret
      exact ⟨rfl, rfl⟩
  · have e : cliB c = false := by unfold cliB; rw [decide_eq_false h1, Bool.false_and]
    rw [e]
    go_enter Try.func73, Try.ntmps73
    go_wp2
    go_ret
    exact ⟨rfl, rfl⟩
theorem Row.five {w : World} {g : Nat} {t : TypeId} {c0 c1 c2 c3 c4 : Value} (h : Row w g t #[c0, c1, c2, c3, c4]) : w.cell? ⟨g, 0, none⟩ = some c0 ∧ w.cell? ⟨g, 1, none⟩ = some c1 ∧ w.cell? ⟨g, 2, none⟩ = some c2 ∧ w.cell? ⟨g, 3, none⟩ = some c3 ∧ w.cell? ⟨g, 4, none⟩ = some c4 := ⟨h.cell 0, h.cell 1, h.cell 2, h.cell 3, h.cell 4⟩
theorem results_row5 {fn : Func} {tmps : Array Value} {w : World} {a h : Nat} {t : TypeId} {c0 c1 c2 c3 c4 : Value} (hf : fn.results = #[.cell a 25]) (ht : tmps[a]? = some (.pointer (some ⟨h, 0, none⟩))) (hr : Row w h t #[c0, c1, c2, c3, c4]) :
    (results fn tmps).run Try.prog w = .ok (.agg #[c0, c1, c2, c3, c4]) w := by
  obtain ⟨h0, h1, h2, h3, h4⟩ := hr.five
  simp [results, hf, ht, go_sem, h0, h1, h2, h3, h4]
/-- A reply whose pairs are new is answered. -/
def AnsR (w : World) (r : Re) (e : Ending) (w' : World) : Prop := ∃ p, e = .returned (.agg #[.int .i64 r.why, .bool r.fnd, .string r.val, .int .i64 r.ver, p]) ∧ Mine w.heap.size w' p r.l ∧ Below w.heap.size w w'
theorem five_put {a b c d e u0 u1 u2 u3 u4 : Value} : (((((#[a, b, c, d, e] : Array Value).setIfInBounds 0 u0).setIfInBounds 1 u1).setIfInBounds 2 u2).setIfInBounds 3 u3).setIfInBounds 4 u4 = #[u0, u1, u2, u3, u4] := by
  simp
/-- All five cells are written. -/
theorem Row.five_put {w : World} {h : Nat} {t : TypeId} {a b c d e : Value} (r : Row w h t #[a, b, c, d, e]) (u0 u1 u2 u3 u4 : Value) :
    Row (((((w.setCell ⟨h, 0, none⟩ u0).setCell ⟨h, 1, none⟩ u1).setCell ⟨h, 2, none⟩ u2).setCell ⟨h, 3, none⟩ u3).setCell ⟨h, 4, none⟩ u4) h t #[u0, u1, u2, u3, u4] := by
  have z := ((((r.put 0 u0).put 1 u1).put 2 u2).put 3 u3).put 4 u4
  rw [Go.Proofs.Ytahfpncfkcfogaa.five_put] at z
  exact z
theorem Mine.put {b : Nat} {w : World} {v : Value} {l : List Pr} (h : Mine b w v l) {g : Nat} (hg : g < b) (i : Nat) (u : Value) : Mine b (w.setCell ⟨g, i, none⟩ u) v l := by
  unfold Mine at h ⊢
  exact ownsRow_setCell_below h hg u
set_option maxRecDepth 100000 in
set_option maxHeartbeats 2000000 in
theorem apart_any (r : Re) (p : Value) (w : World) (h : Pin w p r.l) (ln : r.l.length ≤ 3518437208780) :
    Calls Try.prog 74 #[.agg #[.int .i64 r.why, .bool r.fnd, .string r.val, .int .i64 r.ver, p]] w (AnsR w r) := by
  obtain ⟨A, c, rfl, hA, hc, hcc, hl⟩ := h
  have HL := hide hl
  clear hl
  go_enter Try.func74, Try.ntmps74
  go_upto_region 1 with (fail)
  have R1 := (Row.new w 25 #[.int .i64 r.why, .bool r.fnd, .string r.val, .int .i64 r.ver, .slice A r.l.length c]).alloc (.cells #[.int .i64 0, .bool false, .string { data := #[] }, .int .i64 0, .slice none 0 0] 25)
  have R2 := Row.new (w.alloc (.cells #[.int .i64 r.why, .bool r.fnd, .string r.val, .int .i64 r.ver, .slice A r.l.length c] 25)) 25 #[.int .i64 0, .bool false, .string { data := #[] }, .int .i64 0, .slice none 0 0]
  have hs : (w.alloc (.cells #[.int .i64 r.why, .bool r.fnd, .string r.val, .int .i64 r.ver, .slice A r.l.length c] 25)).heap.size = w.heap.size + 1 := by simp
  rw [hs] at R2
  clear hs
  have hb := kept_alloc (kept_alloc (kept_refl w) (.cells #[.int .i64 r.why, .bool r.fnd, .string r.val, .int .i64 r.ver, .slice A r.l.length c] 25)) (.cells #[.int .i64 0, .bool false, .string { data := #[] }, .int .i64 0, .slice none 0 0] 25)
  have hl2 := HL.out.below hb
  have HB := hide hb
  generalize ((w.alloc (.cells #[.int .i64 r.why, .bool r.fnd, .string r.val, .int .i64 r.ver, .slice A r.l.length c] 25)).alloc (.cells #[.int .i64 0, .bool false, .string { data := #[] }, .int .i64 0, .slice none 0 0] 25)) = w2 at R1 R2 hl2 HB ⊢
  have HC := hide (concat1 (t' := 22) rfl hl2 hA ln)
  have g0 : w.heap.size < w2.heap.size := R1.lt
  have g1 : w.heap.size + 1 < w2.heap.size := R2.lt
  have HR1 := hide R1
  have HR2 := hide R2
  obtain ⟨c0, c1, c2, c3, c4⟩ := R1.five
  clear hb hl2 R1 R2
  go_upto_region 2 with (go_at_call 72; (with_reducible refine HC.out.mono ?_); rintro e w3 ⟨v3, rfl, ho3, hb3⟩; obtain ⟨A3, c3, rfl, _, _, _, _⟩ := ho3.pin; have S1 := HR1.out.below hb3 g0; have d4 := S1.cell 4; have f4 := S1.free 4)
  clear c0 c1 c2 c4
  have S1 := HR1.out.below hb3 g0
  have S2 := HR2.out.below hb3 g1
  have T1 := S1.put 4 (.slice A3 r.l.length c3)
  have T2 : Row (w3.setCell ⟨w.heap.size, 4, none⟩ (.slice A3 r.l.length c3)) (w.heap.size + 1) 25 _ := S2.same (Below.heap_setCell w3 ⟨w.heap.size, 4, none⟩ _ (w.heap.size + 1) (by simp))
  have HM := hide (ho3.put g0 4 (.slice A3 r.l.length c3))
  have HB3 := hide ((kept_trans HB.out hb3).setCell (p := ⟨w.heap.size, 4, none⟩) (Nat.le_refl _) (.slice A3 r.l.length c3))
  clear S1 S2 ho3 hb3 HR1 HR2 HC HB
  generalize (w3.setCell ⟨w.heap.size, 4, none⟩ (.slice A3 r.l.length c3)) = w4 at T1 T2 HM HB3 ⊢
  obtain ⟨c0, c1, c2, c5, c4⟩ := Row.five (T1.same rfl)
  obtain ⟨e0, e1, e2, e5, e4⟩ := T2.five
  have f0 := T2.free 0
  have f1 := T2.free 1
  have f2 := T2.free 2
  have f3 := T2.free 3
  have f4 := T2.free 4
  have HT := hide T2
  clear T1 T2
  go_wp2
  exact bodyPost_ret (results_row5 Try.results74 rfl (HT.out.five_put _ _ _ _ _)) rfl ⟨_, rfl, ((((((HM.out.put g1 0 _).put g1 1 _).put g1 2 _).put g1 3 _).put g1 4 _).mono (Nat.le_of_lt g0)), ((((HB3.out.setCell (p := ⟨w.heap.size + 1, 0, none⟩) (Nat.le_succ _) _).setCell (p := ⟨w.heap.size + 1, 1, none⟩) (Nat.le_succ _) _).setCell (p := ⟨w.heap.size + 1, 2, none⟩) (Nat.le_succ _) _).setCell (p := ⟨w.heap.size + 1, 3, none⟩) (Nat.le_succ _) _).setCell (p := ⟨w.heap.size + 1, 4, none⟩) (Nat.le_succ _) _⟩
end Go.Proofs.Ytahfpncfkcfogaa
/- Package dedup's isZero, isRight; the document's rightReply. Conditions: the reply's pairs lie in memory, their number has room. -/
namespace Go.Proofs.Ytahfpncfkcfogaa
open Go.RowKit
/-- Does it say nothing? -/
def nullR (r : Re) : Bool := (r.why == 0) && (!r.fnd && (nilB r.val && ((r.ver == 0) && decide (r.l.length = 0))))
theorem len_zero (n : Nat) : ((n : Int) == 0) = decide (n = 0) := by
  rw [Bool.eq_iff_iff]; simp
set_option maxHeartbeats 2000000 in
theorem zero_any (r : Re) (p : Value) (w : World) (h : Pin w p r.l) (ln : r.l.length ≤ 3518437208780) :
    Calls Try.prog 102 #[.agg #[.int .i64 r.why, .bool r.fnd, .string r.val, .int .i64 r.ver, p]] w fun e w' => e = .returned (.bool (nullR r)) ∧ Below w.heap.size w w' := by
  obtain ⟨A, c, rfl, hA, hc, hcc, hl⟩ := h
  clear hl
  obtain ⟨why, fnd, val, ver, l⟩ := r
  unfold nullR
  dsimp only at *
  have hnil : (val.toList == []) = nilB val := by unfold nilB; cases val.toList <;> rfl
  have h5 := len_zero l.length
  obtain ⟨t1, h1⟩ : ∃ t, (why == 0) = t := ⟨_, rfl⟩
  obtain ⟨t3, h3⟩ : ∃ t, nilB val = t := ⟨_, rfl⟩
  obtain ⟨t4, h4⟩ : ∃ t, (ver == 0) = t := ⟨_, rfl⟩
  obtain ⟨t5, h6⟩ : ∃ t, decide (l.length = 0) = t := ⟨_, rfl⟩
  rw [h6] at h5
  rw [h3] at hnil
  rw [h1, h3, h4, h6]
  clear h6 h3
  cases t1
  · go_enter Try.func102, Try.ntmps102
    go_wp2
    go_ret
    exact ⟨rfl, (Below.refl _ _).alloc (Nat.le_refl _) _⟩
  cases fnd
  case true =>
    go_enter Try.func102, Try.ntmps102
    go_wp2
    go_ret
    exact ⟨rfl, (Below.refl _ _).alloc (Nat.le_refl _) _⟩
  cases t3
  · go_enter Try.func102, Try.ntmps102
    go_wp2
    go_ret
    exact ⟨rfl, (Below.refl _ _).alloc (Nat.le_refl _) _⟩
  cases t4
  · go_enter Try.func102, Try.ntmps102
    go_wp2
    go_ret
    exact ⟨rfl, (Below.refl _ _).alloc (Nat.le_refl _) _⟩
  go_enter Try.func102, Try.ntmps102
  go_wp2
  go_ret
  exact ⟨rfl, (Below.refl _ _).alloc (Nat.le_refl _) _⟩
theorem rright_below (v : Value) (l : List Pr) (w : World) (h : Pin w v l) (ln : l.length ≤ 4611686018427387904) :
    Calls Try.prog 49 #[v] w fun e w' => e = .returned (.bool (rightB l)) ∧ Below w.heap.size w w' :=
  (rright_any v l w h ln).mono fun _ _ ⟨he, q, hq⟩ => ⟨he, by subst hq; exact kept_drewN (kept_refl w) q⟩
/-- May it be what a command is answered? -/
noncomputable def okR (r : Re) : Bool := ((r.why == 0) || (r.why == 7)) && (decide (r.val.size ≤ 64) && (decide (0 ≤ r.ver) && (decide (r.l.length ≤ 8) && rightB r.l)))
-- GEN
set_option maxHeartbeats 4000000 in
theorem isright_any (r : Re) (p : Value) (w : World) (h : Pin w p r.l) (ln : r.l.length ≤ 3518437208780) :
    Calls Try.prog 103 #[.agg #[.int .i64 r.why, .bool r.fnd, .string r.val, .int .i64 r.ver, p]] w fun e w' => e = .returned (.bool (okR r)) ∧ Below w.heap.size w w' := by
  have HW := hide (kept_alloc (kept_refl w) (.cells #[.int .i64 r.why, .bool r.fnd, .string r.val, .int .i64 r.ver, p] 25))
  have HR := hide (right_any p r.l _ (h.below HW.out) (by omega))
  obtain ⟨A, c, rfl, hA, hc, hcc, hl⟩ := h
  clear hl
  obtain ⟨why, fnd, val, ver, l⟩ := r
  unfold okR
  dsimp only at *
  obtain ⟨t0, h0⟩ : ∃ t, (why == 0) = t := ⟨_, rfl⟩
  obtain ⟨t1, h1⟩ : ∃ t, (why == 7) = t := ⟨_, rfl⟩
  have e2 : decide (val.size ≤ 64) = decide ((val.size : Int) ≤ 64) := by norm_cast
  have e4 : decide (l.length ≤ 8) = decide ((l.length : Int) ≤ 8) := by norm_cast
  obtain ⟨t2, h2⟩ : ∃ t, decide ((val.size : Int) ≤ 64) = t := ⟨_, rfl⟩
  obtain ⟨t3, h3⟩ : ∃ t, decide (0 ≤ ver) = t := ⟨_, rfl⟩
  obtain ⟨t4, h4⟩ : ∃ t, decide ((l.length : Int) ≤ 8) = t := ⟨_, rfl⟩
  rw [h0, h1, e2, e4, h2, h3, h4]
  generalize rightB l = t5 at HR ⊢
  clear e2 e4
  cases t0
  · cases t1
    · skip
      go_enter Try.func103, Try.ntmps103
      go_wp2
      go_ret
      exact ⟨ret_bool (by simp), HW.out⟩
    cases t2
    · skip
      go_enter Try.func103, Try.ntmps103
      go_wp2
      go_ret
      exact ⟨ret_bool (by simp), HW.out⟩
    cases t3
    · skip
      go_enter Try.func103, Try.ntmps103
      go_wp2
      go_ret
      exact ⟨ret_bool (by simp), HW.out⟩
    cases t4
    · skip
      go_enter Try.func103, Try.ntmps103
      go_wp2
      go_ret
      exact ⟨ret_bool (by simp), HW.out⟩
    go_enter Try.func103, Try.ntmps103
    go_wp2_with (go_at_call 46; (with_reducible refine HR.out.mono ?_); rintro e w1 ⟨rfl, hb1⟩)
    go_ret
    exact ⟨ret_bool (by simp), kept_trans HW.out hb1⟩
  · clear h1
    cases t2
    · skip
      go_enter Try.func103, Try.ntmps103
      go_wp2
      go_ret
      exact ⟨ret_bool (by simp), HW.out⟩
    cases t3
    · skip
      go_enter Try.func103, Try.ntmps103
      go_wp2
      go_ret
      exact ⟨ret_bool (by simp), HW.out⟩
    cases t4
    · skip
      go_enter Try.func103, Try.ntmps103
      go_wp2
      go_ret
      exact ⟨ret_bool (by simp), HW.out⟩
    go_enter Try.func103, Try.ntmps103
    go_wp2_with (go_at_call 46; (with_reducible refine HR.out.mono ?_); rintro e w1 ⟨rfl, hb1⟩)
    go_ret
    exact ⟨ret_bool (by simp), kept_trans HW.out hb1⟩
set_option maxHeartbeats 4000000 in
theorem rreply_any (r : Re) (p : Value) (w : World) (h : Pin w p r.l) (ln : r.l.length ≤ 3518437208780) :
    Calls Try.prog 48 #[.agg #[.int .i64 r.why, .bool r.fnd, .string r.val, .int .i64 r.ver, p]] w fun e w' => e = .returned (.bool (okR r)) ∧ Below w.heap.size w w' := by
  have HW := hide (kept_alloc (kept_refl w) (.cells #[.int .i64 r.why, .bool r.fnd, .string r.val, .int .i64 r.ver, p] 25))
  have HR := hide (rright_below p r.l _ (h.below HW.out) (by omega))
  obtain ⟨A, c, rfl, hA, hc, hcc, hl⟩ := h
  clear hl
  obtain ⟨why, fnd, val, ver, l⟩ := r
  unfold okR
  dsimp only at *
  obtain ⟨t0, h0⟩ : ∃ t, (why == 0) = t := ⟨_, rfl⟩
  obtain ⟨t1, h1⟩ : ∃ t, (why == 7) = t := ⟨_, rfl⟩
  have e2 : decide (val.size ≤ 64) = decide ((val.size : Int) ≤ 64) := by norm_cast
  have e4 : decide (l.length ≤ 8) = decide ((l.length : Int) ≤ 8) := by norm_cast
  obtain ⟨t2, h2⟩ : ∃ t, decide ((val.size : Int) ≤ 64) = t := ⟨_, rfl⟩
  obtain ⟨t3, h3⟩ : ∃ t, decide (0 ≤ ver) = t := ⟨_, rfl⟩
  obtain ⟨t4, h4⟩ : ∃ t, decide ((l.length : Int) ≤ 8) = t := ⟨_, rfl⟩
  rw [h0, h1, e2, e4, h2, h3, h4]
  generalize rightB l = t5 at HR ⊢
  clear e2 e4
  cases t0
  · cases t1
    · skip
      go_enter Try.func48, Try.ntmps48
      go_wp2
      go_ret
      exact ⟨ret_bool (by simp), HW.out⟩
    cases t2
    · skip
      go_enter Try.func48, Try.ntmps48
      go_wp2
      go_ret
      exact ⟨ret_bool (by simp), HW.out⟩
    cases t3
    · skip
      go_enter Try.func48, Try.ntmps48
      go_wp2
      go_ret
      exact ⟨ret_bool (by simp), HW.out⟩
    cases t4
    · skip
      go_enter Try.func48, Try.ntmps48
      go_wp2
      go_ret
      exact ⟨ret_bool (by simp), HW.out⟩
    go_enter Try.func48, Try.ntmps48
    go_wp2_with (go_at_call 49; (with_reducible refine HR.out.mono ?_); rintro e w1 ⟨rfl, hb1⟩)
    go_ret
    exact ⟨ret_bool (by simp), kept_trans HW.out hb1⟩
  · clear h1
    cases t2
    · skip
      go_enter Try.func48, Try.ntmps48
      go_wp2
      go_ret
      exact ⟨ret_bool (by simp), HW.out⟩
    cases t3
    · skip
      go_enter Try.func48, Try.ntmps48
      go_wp2
      go_ret
      exact ⟨ret_bool (by simp), HW.out⟩
    cases t4
    · skip
      go_enter Try.func48, Try.ntmps48
      go_wp2
      go_ret
      exact ⟨ret_bool (by simp), HW.out⟩
    go_enter Try.func48, Try.ntmps48
    go_wp2_with (go_at_call 49; (with_reducible refine HR.out.mono ?_); rintro e w1 ⟨rfl, hb1⟩)
    go_ret
    exact ⟨ret_bool (by simp), kept_trans HW.out hb1⟩
end Go.Proofs.Ytahfpncfkcfogaa
/- The document's Replies: are two replies the same. Conditions: their pairs lie in memory, their numbers have room. -/
namespace Go.Proofs.Ytahfpncfkcfogaa
open Go.RowKit
theorem int_ne (x y : Int) : (x != y) = !decide (x = y) := by rw [Bool.eq_iff_iff]; simp
theorem nat_ne (x y : Nat) : ((x : Int) != (y : Int)) = !decide (x = y) := by rw [Bool.eq_iff_iff]; simp; omega
theorem re_ne {a b : Re} (h : a.why ≠ b.why ∨ a.fnd ≠ b.fnd ∨ eqB a.val b.val = false ∨ a.ver ≠ b.ver ∨ a.l ≠ b.l) : decide (a = b) = false := decide_eq_false fun e => by
  subst e
  rcases h with h | h | h | h | h
  · exact h rfl
  · exact h rfl
  · rw [(eq_iff _ _).2 rfl] at h; cases h
  · exact h rfl
  · exact h rfl
theorem re_eq {a b : Re} (h0 : a.why = b.why) (h1 : a.fnd = b.fnd) (h2 : eqB a.val b.val = true) (h3 : a.ver = b.ver) (h4 : a.l = b.l) : decide (a = b) = true := decide_eq_true (by
  obtain ⟨_, _, _, _, _⟩ := a
  obtain ⟨_, _, _, _, _⟩ := b
  have := (eq_iff _ _).1 h2
  simp_all)
/-- Two replies boxed. -/
structure Bb (W w : World) (g : Nat) (a b : Re) (p q : Value) : Prop where
  r1 : Row w g 25 #[.int .i64 a.why, .bool a.fnd, .string a.val, .int .i64 a.ver, p]
  r2 : Row w (g + 1) 25 #[.int .i64 b.why, .bool b.fnd, .string b.val, .int .i64 b.ver, q]
  l1 : Pin w p a.l
  l2 : Pin w q b.l
  old : Below W.heap.size W w
theorem Bb.new {w : World} {a b : Re} {p q : Value} (ha : Pin w p a.l) (hb : Pin w q b.l) : Bb w ((w.alloc (.cells #[.int .i64 a.why, .bool a.fnd, .string a.val, .int .i64 a.ver, p] 25)).alloc (.cells #[.int .i64 b.why, .bool b.fnd, .string b.val, .int .i64 b.ver, q] 25)) w.heap.size a b p q := by
  have k1 := kept_alloc (kept_refl w) (.cells #[.int .i64 a.why, .bool a.fnd, .string a.val, .int .i64 a.ver, p] 25)
  have k2 := kept_alloc k1 (.cells #[.int .i64 b.why, .bool b.fnd, .string b.val, .int .i64 b.ver, q] 25)
  have R2 := Row.new (w.alloc (.cells #[.int .i64 a.why, .bool a.fnd, .string a.val, .int .i64 a.ver, p] 25)) 25 #[.int .i64 b.why, .bool b.fnd, .string b.val, .int .i64 b.ver, q]
  have hs : (w.alloc (.cells #[.int .i64 a.why, .bool a.fnd, .string a.val, .int .i64 a.ver, p] 25)).heap.size = w.heap.size + 1 := by simp
  rw [hs] at R2
  exact ⟨(Row.new w _ _).alloc _, R2, ha.below k2, hb.below k2, k2⟩
theorem Bb.drewN {W w : World} {g : Nat} {a b : Re} {p q : Value} (h : Bb W w g a b p q) (n : Nat) : Bb W (w.drewN n) g a b p q := ⟨h.r1.drewN n, h.r2.drewN n, h.l1.below (kept_drewN (kept_refl w) n), h.l2.below (kept_drewN (kept_refl w) n), kept_drewN h.old n⟩
set_option maxRecDepth 100000 in
set_option maxHeartbeats 8000000 in
theorem replies_any (a b : Re) (p q : Value) (w : World) (ha : Pin w p a.l) (hb : Pin w q b.l) (la : a.l.length ≤ 4611686018427387904) (lb : b.l.length ≤ 4611686018427387904) :
    Calls Try.prog 13 #[.agg #[.int .i64 a.why, .bool a.fnd, .string a.val, .int .i64 a.ver, p], .agg #[.int .i64 b.why, .bool b.fnd, .string b.val, .int .i64 b.ver, q]] w fun e w' => e = .returned (.bool (decide (a = b))) ∧ Below w.heap.size w w' := by
  have HN := hide (Bb.new ha hb)
  obtain ⟨A, c, rfl, hA, hc, hcc, hl⟩ := ha
  obtain ⟨B, d, rfl, hB, hd, hdd, hm⟩ := hb
  clear hl hm
  obtain ⟨why, fnd, val, ver, l⟩ := a
  obtain ⟨why', fnd', val', ver', m⟩ := b
  dsimp only at *
  by_cases h0 : why = why'
  case neg =>
    rw [re_ne (.inl h0)]
    have e0 := int_ne why why'
    rw [decide_eq_false h0] at e0
    clear h0
    go_enter Try.func13, Try.ntmps13
    go_wp2
    go_ret
    exact ⟨rfl, HN.out.old⟩
  subst h0
  by_cases h1 : fnd = fnd'
  case neg =>
    rw [re_ne (.inr (.inl h1))]
    cases fnd <;> cases fnd' <;> first | exact absurd rfl h1 | skip
    all_goals
      clear h1
      go_enter Try.func13, Try.ntmps13
      go_wp2
      go_ret
      exact ⟨rfl, HN.out.old⟩
  subst h1
  by_cases h2 : eqB val val' = true
  case neg =>
    rw [re_ne (.inr (.inr (.inl (Bool.not_eq_true _ ▸ h2))))]
    have e2 : eqB val val' = false := by simpa using h2
    clear h2
    unfold eqB at e2
    go_enter Try.func13, Try.ntmps13
    go_wp2
    go_ret
    exact ⟨rfl, HN.out.old⟩
  obtain rfl := (eq_iff _ _).1 h2
  clear h2
  by_cases h3 : ver = ver'
  case neg =>
    rw [re_ne (.inr (.inr (.inr (.inl h3))))]
    have e3 := int_ne ver ver'
    rw [decide_eq_false h3] at e3
    clear h3
    go_enter Try.func13, Try.ntmps13
    go_wp2
    go_ret
    exact ⟨rfl, HN.out.old⟩
  subst h3
  by_cases h4 : l.length = m.length
  case neg =>
    rw [re_ne (.inr (.inr (.inr (.inr fun e => h4 (congrArg List.length e)))))]
    have e4 := nat_ne l.length m.length
    rw [decide_eq_false h4] at e4
    clear h4
    go_enter Try.func13, Try.ntmps13
    go_wp2
    go_ret
    exact ⟨rfl, HN.out.old⟩
  have e4 := nat_ne l.length m.length
  rw [decide_eq_true h4] at e4
  have HL := hide h4
  clear h4
  go_enter Try.func13, Try.ntmps13
  go_upto_region 3 with (fail)
  generalize (w.alloc (.cells #[.int .i64 why, .bool fnd, .string val, .int .i64 ver, .slice A l.length c] 25)).alloc (.cells #[.int .i64 why, .bool fnd, .string val, .int .i64 ver, .slice B m.length d] 25) = w2 at HN ⊢
  have x4 := HN.out.r1.cell 4
  have y4 := HN.out.r2.cell 4
  have HZ : Hid (Prs w2 A l) := hide (by obtain ⟨A', c', e, _, _, _, hp⟩ := HN.out.l1; cases e; exact hp)
  have HY : Hid (Prs w2 B m) := hide (by obtain ⟨A', c', e, _, _, _, hp⟩ := HN.out.l2; cases e; exact hp)
  have HB := hide HN.out.old
  clear HN
  generalize w.heap.size = g at x4 y4 ⊢
  replace x4 : w2.cell? ⟨g, 4, none⟩ = some (.slice A l.length c) := x4
  replace y4 : w2.cell? ⟨g + 1, 4, none⟩ = some (.slice B m.length d) := y4
  go_wp2
  go_loopw [5] (fun i wr => ∃ k q : Nat, k ≤ l.length ∧ i = .int .i64 k ∧ wr = w2.drewN q ∧ Hid (∀ j, j < k → l[j]? = m[j]?)) (fun i _ => l.length - (intOf i).toNat)
  case atStart => exact ⟨0, 0, by omega, rfl, rfl, fun j hj => absurd hj (by omega)⟩
  case round =>
    obtain ⟨k, q, hk, rfl, rfl, hs⟩ := hrel
    by_cases hlt : k < l.length
    · have hl := HL.out
      have lt1 : k < m.length := by omega
      obtain ⟨x, hx⟩ : ∃ x, l[k]? = some x := ⟨_, List.getElem?_eq_getElem hlt⟩
      obtain ⟨y, hyy⟩ : ∃ x, m[k]? = some x := ⟨_, List.getElem?_eq_getElem lt1⟩
      obtain ⟨b1, o1, rfl, _, c0, c1, c2⟩ := HZ.out.at_ hx
      obtain ⟨b2, o2, rfl, _, d0, d1, d2⟩ := HY.out.at_ hyy
      have heq := neq_pair x y
      have HX := hide hx; have HYY := hide hyy; clear hx hyy hl
      by_cases he : x = y
      · rw [decide_eq_true he] at heq
        have HE := hide he
        clear he
        go_wp2
        go_quiet (fail)
        go_wp2
        go_roundw
        case rel => exact ⟨k + 1, _, by omega, by go_num, rfl, fun j hj => by
          rcases Nat.lt_or_ge j k with h1 | h1
          · exact hs.out j h1
          · obtain rfl : j = k := by omega
            rw [HX.out, HYY.out, HE.out]⟩
        case measure => simp [intOf]; omega
      · rw [decide_eq_false he] at heq
        have HE : Hid (decide ((⟨why, fnd, val, ver, l⟩ : Re) = ⟨why, fnd, val, ver, m⟩) = false) := hide (decide_eq_false fun e => he (by
          injection e with _ _ _ _ e
          subst e
          exact Option.some.inj (HX.out.symm.trans HYY.out)))
        clear he
        go_wp2
        go_quiet (fail)
        go_wp2
        go_ret
        exact ⟨ret_bool HE.out.symm, kept_drewN (kept_drewN HB.out _) _⟩
    · have HE : Hid (decide ((⟨why, fnd, val, ver, l⟩ : Re) = ⟨why, fnd, val, ver, m⟩) = true) := hide (decide_eq_true (by
        congr 1
        apply List.ext_getElem?
        intro j
        rcases Nat.lt_or_ge j k with h1 | h1
        · exact hs.out j h1
        · rw [List.getElem?_eq_none (by omega), List.getElem?_eq_none (by have := HL.out; omega)]))
      go_wp2
      go_ret
      exact ⟨ret_bool HE.out.symm, kept_drewN HB.out _⟩
end Go.Proofs.Ytahfpncfkcfogaa
/- Owners, eight of them by value, in plain words. No condition: nothing here speaks of a function. -/
namespace Go.Proofs.Ytahfpncfkcfogaa
open Go.RowKit
/-- A client as it is known. -/
structure Ow where
  s : Int
  r : Re
deriving DecidableEq
def zeroO : Ow := ⟨0, zeroR⟩
/-- One with its slice of pairs. -/
structure Co where
  o : Ow
  A : Option Addr
  c : Nat
def Co.p (x : Co) : Value := .slice x.A x.o.r.l.length x.c
def Co.cs (x : Co) : List Value := [.int .i64 x.o.s, .int .i64 x.o.r.why, .bool x.o.r.fnd, .string x.o.r.val, .int .i64 x.o.r.ver, x.p]
def coV (L : List Co) : List (List Value) := L.map Co.cs
theorem coV_all (L : List Co) : AllV 6 (coV L) := fun x hx => by
  unfold coV at hx
  obtain ⟨p, _, rfl⟩ := List.mem_map.1 hx
  exact ⟨rfl, fun u hu => by simp [Co.cs, Co.p] at hu; rcases hu with rfl | rfl | rfl | rfl | rfl | rfl <;> rfl⟩
theorem coV_len (L : List Co) : (coV L).length = L.length := List.length_map _
theorem coV_at {L : List Co} {k : Nat} {x : Co} (h : L[k]? = some x) : (coV L)[k]? = some x.cs := by unfold coV; rw [List.getElem?_map, h]; rfl
/-- Their cells. -/
def arr (L : List Co) : Array Value := (cellsV (coV L)).toArray
theorem arr_size {L : List Co} (h : L.length = 8) : (arr L).size = 48 := by
  unfold arr
  rw [List.size_toArray, length_cellsV (coV_all L), coV_len, h]
theorem arr_list (L : List Co) : (arr L).toList = cellsV (coV L) := rfl
theorem arr_one (L : List Co) : (arr L).all (·.oneCell') = true := Array.all_eq_true_iff_forall_mem.2 (fun v hv => cellsV_one (coV_all L) v (by unfold arr at hv; simpa using hv))
theorem arr_at {L : List Co} {k : Nat} {x : Co} (h : L[k]? = some x) (i : Nat) (hi : i < 6) : (arr L)[k * 6 + i]? = x.cs[i]? := by
  rw [← Array.getElem?_toList, arr_list]
  exact cellsV_of (coV_all L) (coV_at h) i hi
/-- All their lists lie in memory, none is great. -/
def Fine (w : World) (L : List Co) : Prop := L.length = 8 ∧ ∀ x, x ∈ L → Pin w x.p x.o.r.l ∧ x.o.r.l.length ≤ 3518437208780
theorem Fine.below {w w' : World} {L : List Co} (h : Fine w L) (hb : Below w.heap.size w w') : Fine w' L := ⟨h.1, fun x hx => ⟨(h.2 x hx).1.below hb, (h.2 x hx).2⟩⟩
theorem Fine.at_ {w : World} {L : List Co} (h : Fine w L) {k : Nat} (hk : k < 8) : ∃ x, L[k]? = some x ∧ Pin w x.p x.o.r.l ∧ x.o.r.l.length ≤ 3518437208780 := by
  obtain ⟨x, hx⟩ : ∃ x, L[k]? = some x := ⟨_, List.getElem?_eq_getElem (by rw [h.1]; exact hk)⟩
  exact ⟨x, hx, h.2 x (List.mem_of_getElem? hx)⟩
/-- An owner's six cells in a block of eight. -/
theorem Row.owner {w : World} {g : Nat} {t : TypeId} {L : List Co} (h : Row w g t (arr L)) {k : Nat} {x : Co} (hx : L[k]? = some x) :
    w.cell? ⟨g, k * 6, none⟩ = some (.int .i64 x.o.s) ∧ w.cell? ⟨g, k * 6 + 1, none⟩ = some (.int .i64 x.o.r.why) ∧ w.cell? ⟨g, k * 6 + 2, none⟩ = some (.bool x.o.r.fnd) ∧ w.cell? ⟨g, k * 6 + 3, none⟩ = some (.string x.o.r.val) ∧ w.cell? ⟨g, k * 6 + 4, none⟩ = some (.int .i64 x.o.r.ver) ∧ w.cell? ⟨g, k * 6 + 5, none⟩ = some x.p := by
  refine ⟨?_, ?_, ?_, ?_, ?_, ?_⟩
  · have := arr_at hx 0 (by omega)
    rw [h.cell]; exact this
  all_goals
    rw [h.cell, arr_at hx _ (by omega)]; rfl
theorem info_eight : (Try.prog.info? 28).map (·.size) = some 48 := by kernel_rfl
theorem under_eight : Try.prog.underlying 28 = some (.array 8 27) := by kernel_rfl
theorem load_eight {w : World} {g : Nat} {t : TypeId} {L : List Co} (h : Row w g t (arr L)) (hl : L.length = 8) : (Instr.loadAt 28 (.pointer (some ⟨g, 0, none⟩))).run Try.prog w = .ok (.agg (arr L)) w := by
  simp only [Instr.loadAt, Instr.sureAddr, Sem.run_bind, Sem.run_pure, Result.andThen_ok]
  exact run_loadVar_row _ g t 28 (arr L) (0, 0) _ h under_eight rfl (by rw [arr_size hl]; exact info_eight)
theorem index_eight {L : List Co} (hl : L.length = 8) {k : Nat} (hk : k < 8) {x : Co} (hx : L[k]? = some x) (w : World) : (Instr.index 28 (.agg (arr L)) (.int .i64 (k : Int))).run Try.prog w = .ok (.agg #[.int .i64 x.o.s, .int .i64 x.o.r.why, .bool x.o.r.fnd, .string x.o.r.val, .int .i64 x.o.r.ver, x.p]) w := by
  have hr : (0 : Int) ≤ (k : Int) ∧ (k : Int) < ((8 : Nat) : Int) := by omega
  have hs : (arr L).extract (k * 6) (k * 6 + 6) = #[.int .i64 x.o.s, .int .i64 x.o.r.why, .bool x.o.r.fnd, .string x.o.r.val, .int .i64 x.o.r.ver, x.p] := by
    apply Array.ext_getElem?
    intro i
    have hz := arr_size hl
    rw [Array.getElem?_extract, hz]
    by_cases hi : i < 6
    · rw [if_pos (by omega), arr_at hx i hi]
      match i, hi with
      | 0, _ => rfl
      | 1, _ => rfl
      | 2, _ => rfl
      | 3, _ => rfl
      | 4, _ => rfl
      | 5, _ => rfl
    · rw [if_neg (by omega)]
      exact (Array.getElem?_eq_none (by simp; omega)).symm
  simp [Instr.index, run_underlying under_eight, asIntOf, hr, go_sem]
  rw [if_pos hk, hs]
/-- All eight are loaded, in the walk. -/
theorem wpList_load8 {ops : Array Oper} {rest : List Oper} {d : Option Tmp} {ty : TypeId} {ps : String} {af : Array Edge} {x : Operand} {a : Act} {w : World} {Q : Exit → Act → World → Prop} {b : Nat} {t : TypeId} {L : List Co}
    (hx : a.eval x = .pointer (some ⟨b, 0, none⟩)) (R : Row w b t (arr L)) (hl : L.length = 8) (h : wpList Try.prog ops Q rest (a.put d (.agg (arr L))) w) :
    wpList Try.prog ops Q ({ dst := d, op := .load 28 x, type := ty, pos := ps, after := af, guard := none } :: rest) a w :=
  wpList_plain rfl fun K hK => by
    unfold Oper.wp execOp
    simp only [hx, Sem.run_bind, Sem.run_pure, load_eight R hl, Result.andThen_ok]
    exact hK _ _ h
theorem arr_eight {L : List Co} (hl : L.length = 8) : (Try.prog.info? 28).map (·.size) = some (arr L).size := by rw [arr_size hl]; exact info_eight
/-- All eight are stored, in the walk. -/
theorem wpList_store8 {ops : Array Oper} {rest : List Oper} {d : Option Tmp} {ty : TypeId} {ps : String} {af : Array Edge} {x y : Operand} {a : Act} {w : World} {Q : Exit → Act → World → Prop} {b : Nat} {t : TypeId} {L M : List Co}
    (hx : a.eval x = .pointer (some ⟨b, 0, none⟩)) (hy : a.eval y = .agg (arr M)) (R : Row w b t (arr L)) (hl : L.length = 8) (hm : M.length = 8)
    (h : wpList Try.prog ops Q rest (a.put d undef) (w.setRow b (arr M))) :
    wpList Try.prog ops Q ({ dst := d, op := .store 28 x y, type := ty, pos := ps, after := af, guard := none } :: rest) a w :=
  wpList_plain rfl fun K hK => by
    unfold Oper.wp execOp
    simp only [hx, hy, Instr.storeAt, Instr.sureAddr, Sem.run_bind, Sem.run_pure, Result.andThen_ok, run_storeVar_row _ b t 28 _ _ R (arr_eight hm) (by rw [arr_size hl, arr_size hm]) (arr_one M)]
    exact hK _ _ h
theorem Row.setRow {w : World} {b : Nat} {t : TypeId} {cs : Array Value} (R : Row w b t cs) (cs' : Array Value) : Row (w.setRow b cs') b t cs' := setRow_heap w b cs cs' t (0, 0) R
theorem Row.setRow_other {w : World} {b g : Nat} {t : TypeId} {cs : Array Value} (R : Row w g t cs) (hne : g ≠ b) (cs' : Array Value) : Row (w.setRow b cs') g t cs := R.same (Go.setRow_other w b g cs' hne)
theorem setRow_grown (w : World) (b : Nat) (cs : Array Value) : w.grownBy (w.setRow b cs) (some b) := ⟨rfl, rfl, rfl, by simp, fun k _ hne => Go.setRow_other w b k cs (fun e => hne (by rw [e]))⟩
end Go.Proofs.Ytahfpncfkcfogaa
/- Package dedup's may and Right. Conditions: the lists of pairs lie in memory, none is great. -/
namespace Go.Proofs.Ytahfpncfkcfogaa
open Go.RowKit
/-- May it be a client's? -/
noncomputable def mayO (o : Ow) : Bool := if o.s = 0 then nullR o.r else (decide (1 ≤ o.s) && (decide (o.s ≤ 1099511627776) && okR o.r))
set_option maxHeartbeats 4000000 in
theorem mayO_any (o : Ow) (p : Value) (w : World) (h : Pin w p o.r.l) (ln : o.r.l.length ≤ 3518437208780) :
    Calls Try.prog 82 #[.agg #[.int .i64 o.s, .int .i64 o.r.why, .bool o.r.fnd, .string o.r.val, .int .i64 o.r.ver, p]] w fun e w' => e = .returned (.bool (mayO o)) ∧ Below w.heap.size w w' := by
  have HW := hide (kept_alloc (kept_refl w) (.cells #[.int .i64 o.s, .int .i64 o.r.why, .bool o.r.fnd, .string o.r.val, .int .i64 o.r.ver, p] 27))
  have HZ := hide (zero_any o.r p _ (h.below HW.out) ln)
  have HR := hide (isright_any o.r p _ (h.below HW.out) ln)
  unfold mayO
  obtain ⟨s, r⟩ := o
  dsimp only at *
  clear h
  by_cases h0 : s = 0
  · rw [if_pos h0]
    subst h0
    generalize nullR r = t at HZ ⊢
    go_enter Try.func82, Try.ntmps82
    go_wp2_with (go_at_call 102; (with_reducible refine HZ.out.mono ?_); rintro e w1 ⟨rfl, hb1⟩)
    go_ret
    exact ⟨rfl, kept_trans HW.out hb1⟩
  · rw [if_neg h0]
    have e0 : (s == 0) = false := by simpa using h0
    clear h0
    generalize okR r = t at HR ⊢
    obtain ⟨t1, h1⟩ : ∃ t, decide (1 ≤ s) = t := ⟨_, rfl⟩
    obtain ⟨t2, h2⟩ : ∃ t, decide (s ≤ 1099511627776) = t := ⟨_, rfl⟩
    rw [h1, h2]
    cases t1
    · go_enter Try.func82, Try.ntmps82
      go_wp2
      go_ret
      exact ⟨rfl, HW.out⟩
    cases t2
    · go_enter Try.func82, Try.ntmps82
      go_wp2
      go_ret
      exact ⟨rfl, HW.out⟩
    go_enter Try.func82, Try.ntmps82
    go_wp2_with (go_at_call 103; (with_reducible refine HR.out.mono ?_); rintro e w1 ⟨rfl, hb1⟩)
    go_ret
    exact ⟨ret_bool (by simp), kept_trans HW.out hb1⟩
noncomputable def rightO (l : List Co) : Bool := l.all fun x => mayO x.o
set_option maxRecDepth 100000 in
set_option maxHeartbeats 4000000 in
theorem rightO_any (L : List Co) (w : World) (h : Fine w L) :
    Calls Try.prog 47 #[.agg (arr L)] w fun e w' => e = .returned (.bool (rightO L)) ∧ Below w.heap.size w w' := by
  have HF := hide (h.below (kept_alloc (kept_refl w) (.cells (arr L) 28)))
  have HW := hide (kept_alloc (kept_refl w) (.cells (arr L) 28))
  have HR := hide (Row.new w 28 (arr L))
  have H8 := hide h.1
  have l8 : 8 ≤ L.length := by rw [h.1]; exact Nat.le_refl _
  clear h
  go_enter Try.func47, Try.ntmps47
  go_wp2_with ((with_reducible refine wpList_load8 ?_ HR.out H8.out ?_); rfl)
  generalize w.alloc (.cells (arr L) 28) = w1 at HF HW HR ⊢
  go_loopw [6] (fun i wr => ∃ k : Nat, k ≤ 8 ∧ i = .int .i64 k ∧ Hid (∀ j x, j < k → L[j]? = some x → mayO x.o = true) ∧ Hid (Below w1.heap.size w1 wr)) (fun i _ => 8 - (intOf i).toNat)
  case atStart => exact ⟨0, by omega, rfl, (fun j x hj => absurd hj (by omega)), Below.refl _ _⟩
  case round =>
    obtain ⟨k, hk, rfl, hs, hb⟩ := hrel
    by_cases hlt : k < 8
    · obtain ⟨x, hx, hp, hn⟩ := HF.out.at_ hlt
      have hix := index_eight H8.out hlt hx
      have hlt' : (k : Int) < 8 := by omega
      have HX := hide hx
      have hp2 := hp.below hb.out
      have HB2 := hide (kept_alloc hb.out (.cells #[.int .i64 x.o.s, .int .i64 x.o.r.why, .bool x.o.r.fnd, .string x.o.r.val, .int .i64 x.o.r.ver, x.p] 27))
      have HM := hide (mayO_any x.o x.p _ (hp.below HB2.out) hn)
      clear hp hx hn hp2
      unfold Co.p at hix HM HB2
      cases hm : mayO x.o
      · rw [hm] at HM
        have HE : Hid (rightO L = false) := hide (by
          unfold rightO
          rw [List.all_eq_false]
          exact ⟨x, List.mem_of_getElem? HX.out, by rw [hm]; simp⟩)
        clear hm
        go_wp2_with (go_at_call 82; (with_reducible refine HM.out.mono ?_); rintro e w2 ⟨rfl, hb2⟩)
        go_ret
        exact ⟨by rw [HE.out]; rfl, kept_trans HW.out (kept_trans HB2.out hb2)⟩
      · rw [hm] at HM
        have HE := hide hm
        clear hm
        go_wp2_with (go_at_call 82; (with_reducible refine HM.out.mono ?_); rintro e w2 ⟨rfl, hb2⟩)
        go_roundw
        case rel => exact ⟨k + 1, by omega, by go_num, hide (fun j y hj hy => by
          rcases Nat.lt_or_ge j k with h1 | h1
          · exact hs.out j y h1 hy
          · obtain rfl : j = k := by omega
            cases HX.out.symm.trans hy
            exact HE.out), hide (kept_trans HB2.out hb2)⟩
        case measure => simp [intOf]; omega
    · obtain rfl : k = 8 := by omega
      have HE : Hid (rightO L = true) := hide (by
        unfold rightO
        rw [List.all_eq_true]
        intro x hx
        obtain ⟨j, hj⟩ := List.getElem?_of_mem hx
        have hl : j < L.length := by
          rcases Nat.lt_or_ge j L.length with h1 | h1
          · exact h1
          · rw [List.getElem?_eq_none h1] at hj; cases hj
        exact hs.out j x (by rw [H8.out] at hl; exact hl) hj)
      go_wp2
      go_ret
      exact ⟨by rw [HE.out]; rfl, kept_trans HW.out hb.out⟩
end Go.Proofs.Ytahfpncfkcfogaa
/- Package dedup's Look. Conditions: the lists of pairs lie in memory, none is great. -/
namespace Go.Proofs.Ytahfpncfkcfogaa
open Go.RowKit
def ows (L : List Co) : List Ow := L.map Co.o
theorem ows_at {L : List Co} {k : Nat} {x : Co} (h : L[k]? = some x) : (ows L)[k]? = some x.o := by unfold ows; rw [List.getElem?_map, h]; rfl
/-- What a number of this owner is. -/
def seenO (o : Ow) (s : Int) : Int × Re := if o.s < s then (1, zeroR) else if s < o.s then (3, zeroR) else (2, o.r)
def lookO (l : List Ow) (c s : Int) : Int × Re := if cliB c = true then seenO ((l[(c - 1).toNat]?).getD zeroO) s else (0, zeroR)
/-- A number and a reply whose pairs are new are answered. -/
def AnsK (w : World) (kr : Int × Re) (e : Ending) (w' : World) : Prop := ∃ p, e = .returned (.tuple #[.int .i64 kr.1, .agg #[.int .i64 kr.2.why, .bool kr.2.fnd, .string kr.2.val, .int .i64 kr.2.ver, p]]) ∧ Mine w.heap.size w' p kr.2.l ∧ Below w.heap.size w w'
theorem results_look {fn : Func} {tmps : Array Value} {w : World} {a b h : Nat} {t : TypeId} {v c0 c1 c2 c3 c4 : Value} (hf : fn.results = #[.tmp a, .cell b 25]) (hv : tmps.getD a undef = v) (ht : tmps[b]? = some (.pointer (some ⟨h, 0, none⟩))) (hr : Row w h t #[c0, c1, c2, c3, c4]) :
    (results fn tmps).run Try.prog w = .ok (.tuple #[v, .agg #[c0, c1, c2, c3, c4]]) w := by
  obtain ⟨h0, h1, h2, h3, h4⟩ := hr.five
  subst hv
  simp [results, hf, ht, go_sem, h0, h1, h2, h3, h4]
theorem cli_place {c : Int} (h : cliB c = true) : ∃ k : Nat, k < 8 ∧ c = (k : Int) + 1 ∧ (c - 1).toNat = k ∧ IntKind.i64.wrap (c - 1) = (k : Int) := by
  unfold cliB at h
  simp only [Bool.and_eq_true, decide_eq_true_eq] at h
  refine ⟨(c - 1).toNat, by omega, by omega, rfl, ?_⟩
  rw [IntKind.wrap_i64]; omega
set_option maxRecDepth 100000 in
set_option maxHeartbeats 4000000 in
theorem look_any (L : List Co) (c s : Int) (w : World) (h : Fine w L) :
    Calls Try.prog 38 #[.agg (arr L), .int .i64 c, .int .i64 s] w (AnsK w (lookO (ows L) c s)) := by
  have HC := hide (fun w => cli_any c w)
  cases hc : cliB c
  · have e : lookO (ows L) c s = (0, zeroR) := by unfold lookO; rw [hc]; rfl
    rw [e]
    rw [hc] at HC
    clear e hc
    go_enter Try.func38, Try.ntmps38
    have R1 := Row.new (w.alloc (.cells (arr L) 28)) 25 #[.int .i64 0, .bool false, .string { data := #[] }, .int .i64 0, .slice none 0 0]
    have hs : (w.alloc (.cells (arr L) 28)).heap.size = w.heap.size + 1 := by simp
    rw [hs] at R1
    have HB := hide (kept_alloc (kept_alloc (kept_refl w) (.cells (arr L) 28)) (.cells #[.int .i64 0, .bool false, .string { data := #[] }, .int .i64 0, .slice none 0 0] 25))
    clear hs
    go_upto_region 1 with (fail)
    generalize ((w.alloc (.cells (arr L) 28)).alloc (.cells #[.int .i64 0, .bool false, .string { data := #[] }, .int .i64 0, .slice none 0 0] 25)) = w2 at R1 HB ⊢
    obtain ⟨e0, e1, e2, e3, e4⟩ := R1.five
    have f0 := R1.free 0
    have f1 := R1.free 1
    have f2 := R1.free 2
    have f3 := R1.free 3
    have f4 := R1.free 4
    have HR := hide R1
    clear R1
    go_wp2_with (go_at_call 73; (with_reducible refine (HC.out _).mono ?_); rintro e w1 ⟨rfl, rfl⟩)
    exact bodyPost_ret (results_look (v := .int .i64 0) Try.results38 rfl rfl (HR.out.five_put _ _ _ _ _)) rfl ⟨_, rfl, Mine.nil_ _ _, ((((HB.out.setCell (p := ⟨w.heap.size + 1, 0, none⟩) (Nat.le_succ _) _).setCell (p := ⟨w.heap.size + 1, 1, none⟩) (Nat.le_succ _) _).setCell (p := ⟨w.heap.size + 1, 2, none⟩) (Nat.le_succ _) _).setCell (p := ⟨w.heap.size + 1, 3, none⟩) (Nat.le_succ _) _).setCell (p := ⟨w.heap.size + 1, 4, none⟩) (Nat.le_succ _) _⟩
  · obtain ⟨k, hk, hk1, hk2, hk3⟩ := cli_place hc
    rw [hc] at HC
    obtain ⟨x, hx, hp, hn⟩ := h.at_ hk
    have e : lookO (ows L) c s = seenO x.o s := by unfold lookO; rw [if_pos hc, hk2, ows_at hx]; rfl
    obtain ⟨V, hV⟩ : ∃ V, seenO x.o s = V := ⟨_, rfl⟩
    rw [e, hV]
    have HV := hide hV
    clear e hc hk1 hk2 hV
    have R0 := (Row.new w 28 (arr L)).alloc (.cells #[.int .i64 0, .bool false, .string { data := #[] }, .int .i64 0, .slice none 0 0] 25)
    have R1 := Row.new (w.alloc (.cells (arr L) 28)) 25 #[.int .i64 0, .bool false, .string { data := #[] }, .int .i64 0, .slice none 0 0]
    have hs : (w.alloc (.cells (arr L) 28)).heap.size = w.heap.size + 1 := by simp
    rw [hs] at R1
    have HB := hide (kept_alloc (kept_alloc (kept_refl w) (.cells (arr L) 28)) (.cells #[.int .i64 0, .bool false, .string { data := #[] }, .int .i64 0, .slice none 0 0] 25))
    have HP := hide (hp.below HB.out)
    clear hs hp
    go_enter Try.func38, Try.ntmps38
    go_upto_region 1 with (fail)
    generalize ((w.alloc (.cells (arr L) 28)).alloc (.cells #[.int .i64 0, .bool false, .string { data := #[] }, .int .i64 0, .slice none 0 0] 25)) = w2 at R0 R1 HB HP ⊢
    obtain ⟨e0, e1, e2, e3, e4⟩ := R1.five
    obtain ⟨d0, d1, d2, d3, d4, d5⟩ := R0.owner hx
    have f0 := R1.free 0
    have f1 := R1.free 1
    have f2 := R1.free 2
    have f3 := R1.free 3
    have f4 := R1.free 4
    have HR := hide R1
    have HR0 := hide R0
    have g0 : w.heap.size + 1 < w2.heap.size := R1.lt
    clear R1 R0
    unfold Co.p at d5 HP
    go_upto_region 4 with (go_at_call 73; (with_reducible refine (HC.out _).mono ?_); rintro e w1 ⟨rfl, rfl⟩)
    have R3 := Row.new w2 27 #[.int .i64 x.o.s, .int .i64 x.o.r.why, .bool x.o.r.fnd, .string x.o.r.val, .int .i64 x.o.r.ver, .slice x.A x.o.r.l.length x.c]
    have kb := kept_alloc (kept_refl w2) (.cells #[.int .i64 x.o.s, .int .i64 x.o.r.why, .bool x.o.r.fnd, .string x.o.r.val, .int .i64 x.o.r.ver, .slice x.A x.o.r.l.length x.c] 27)
    have HR3 := hide (HR.out.below kb g0)
    have HB3 := hide (kept_trans HB.out kb)
    have HP3 := hide (HP.out.below kb)
    have g3 := Nat.lt_of_lt_of_le g0 kb.size
    clear e0 e1 e2 e3 e4 d0 d1 d2 d3 d4 d5 f0 f1 f2 f3 f4 HR HR0 HB HP kb
    generalize w2.alloc (.cells #[.int .i64 x.o.s, .int .i64 x.o.r.why, .bool x.o.r.fnd, .string x.o.r.val, .int .i64 x.o.r.ver, .slice x.A x.o.r.l.length x.c] 27) = w3 at R3 HR3 HB3 HP3 g3 ⊢
    generalize w2.heap.size = g2 at R3 ⊢
    obtain ⟨e0, e1, e2, e3, e4⟩ := HR3.out.five
    have f0 := HR3.out.free 0
    have f1 := HR3.out.free 1
    have f2 := HR3.out.free 2
    have f3 := HR3.out.free 3
    have f4 := HR3.out.free 4
    have d0 : w3.cell? ⟨g2, 0, none⟩ = some (.int .i64 x.o.s) := R3.cell 0
    have d1 : w3.cell? ⟨g2, 1, none⟩ = some (.int .i64 x.o.r.why) := R3.cell 1
    have d2 : w3.cell? ⟨g2, 2, none⟩ = some (.bool x.o.r.fnd) := R3.cell 2
    have d3 : w3.cell? ⟨g2, 3, none⟩ = some (.string x.o.r.val) := R3.cell 3
    have d4 : w3.cell? ⟨g2, 4, none⟩ = some (.int .i64 x.o.r.ver) := R3.cell 4
    have d5 : w3.cell? ⟨g2, 5, none⟩ = some (.slice x.A x.o.r.l.length x.c) := R3.cell 5
    clear R3
    by_cases h1 : x.o.s < s
    · have e : seenO x.o s = (1, zeroR) := by unfold seenO; rw [if_pos h1]
      obtain rfl : V = (1, zeroR) := HV.out.symm.trans e
      clear e
      go_wp2
      exact bodyPost_ret (results_look (v := .int .i64 1) Try.results38 rfl rfl (HR3.out.five_put _ _ _ _ _)) rfl ⟨_, rfl, Mine.nil_ _ _, ((((HB3.out.setCell (p := ⟨w.heap.size + 1, 0, none⟩) (Nat.le_succ _) _).setCell (p := ⟨w.heap.size + 1, 1, none⟩) (Nat.le_succ _) _).setCell (p := ⟨w.heap.size + 1, 2, none⟩) (Nat.le_succ _) _).setCell (p := ⟨w.heap.size + 1, 3, none⟩) (Nat.le_succ _) _).setCell (p := ⟨w.heap.size + 1, 4, none⟩) (Nat.le_succ _) _⟩
    · by_cases h2 : s < x.o.s
      · have e : seenO x.o s = (3, zeroR) := by unfold seenO; rw [if_neg h1, if_pos h2]
        obtain rfl : V = (3, zeroR) := HV.out.symm.trans e
        clear e
        go_wp2
        exact bodyPost_ret (results_look (v := .int .i64 3) Try.results38 rfl rfl (HR3.out.five_put _ _ _ _ _)) rfl ⟨_, rfl, Mine.nil_ _ _, ((((HB3.out.setCell (p := ⟨w.heap.size + 1, 0, none⟩) (Nat.le_succ _) _).setCell (p := ⟨w.heap.size + 1, 1, none⟩) (Nat.le_succ _) _).setCell (p := ⟨w.heap.size + 1, 2, none⟩) (Nat.le_succ _) _).setCell (p := ⟨w.heap.size + 1, 3, none⟩) (Nat.le_succ _) _).setCell (p := ⟨w.heap.size + 1, 4, none⟩) (Nat.le_succ _) _⟩
      · have e : seenO x.o s = (2, x.o.r) := by unfold seenO; rw [if_neg h1, if_neg h2]
        obtain rfl : V = (2, x.o.r) := HV.out.symm.trans e
        clear e
        have HA := hide (apart_any x.o.r _ w3 HP3.out hn)
        go_wp2_with (go_at_call 74; (with_reducible refine HA.out.mono ?_); rintro e w4 ⟨p, rfl, ho4, hb4⟩; obtain ⟨A4, c4, rfl, _, _, _, _⟩ := ho4.pin; have S := HR3.out.below hb4 g3; have k0 := S.cell 0; have k1 := S.cell 1; have k2 := S.cell 2; have k3 := S.cell 3; have k4 := S.cell 4; have j0 := S.free 0; have j1 := S.free 1; have j2 := S.free 2; have j3 := S.free 3; have j4 := S.free 4)
        exact bodyPost_ret (results_look (v := .int .i64 2) Try.results38 rfl rfl (S.five_put _ _ _ _ _)) rfl ⟨_, rfl, ((((((ho4.put g3 0 _).put g3 1 _).put g3 2 _).put g3 3 _).put g3 4 _).mono (Nat.le_of_lt (Nat.lt_trans (Nat.lt_succ_self _) g3))), ((((kept_trans HB3.out hb4).setCell (p := ⟨w.heap.size + 1, 0, none⟩) (Nat.le_succ _) _).setCell (p := ⟨w.heap.size + 1, 1, none⟩) (Nat.le_succ _) _).setCell (p := ⟨w.heap.size + 1, 2, none⟩) (Nat.le_succ _) _).setCell (p := ⟨w.heap.size + 1, 3, none⟩) (Nat.le_succ _) _ |>.setCell (p := ⟨w.heap.size + 1, 4, none⟩) (Nat.le_succ _) _⟩
end Go.Proofs.Ytahfpncfkcfogaa
/- Eight owners: one of them stored; all of them answered. No condition: nothing here speaks of a function. -/
namespace Go.Proofs.Ytahfpncfkcfogaa
open Go.RowKit
theorem arr_set {L : List Co} {k : Nat} {x : Co} (hx : L[k]? = some x) (y : Co) : (arr (L.set k y)).toList = (arr L).toList.take (k * 6) ++ y.cs ++ (arr L).toList.drop (k * 6 + 6) := by
  have hk : k < L.length := by
    rcases Nat.lt_or_ge k L.length with h1 | h1
    · exact h1
    · rw [List.getElem?_eq_none h1] at hx; cases hx
  have hg : L[k] = x := by rw [List.getElem?_eq_getElem hk] at hx; exact Option.some.inj hx
  have e1 : L = L.take k ++ x :: L.drop (k + 1) := by
    conv => lhs; rw [← List.take_append_drop k L, List.drop_eq_getElem_cons hk, hg]
  have e2 : L.set k y = L.take k ++ y :: L.drop (k + 1) := List.set_eq_take_append_cons_drop.trans (by rw [if_pos hk])
  have hlen : (cellsV (coV (L.take k))).length = k * 6 := by
    rw [length_cellsV (coV_all _), coV_len, List.length_take, Nat.min_eq_left (Nat.le_of_lt hk)]
  have c1 : cellsV (coV L) = cellsV (coV (L.take k)) ++ (x.cs ++ cellsV (coV (L.drop (k + 1)))) := by
    conv => lhs; rw [e1]
    unfold coV
    rw [List.map_append, cellsV_append, List.map_cons, cellsV_cons]
  have c2 : cellsV (coV (L.set k y)) = cellsV (coV (L.take k)) ++ (y.cs ++ cellsV (coV (L.drop (k + 1)))) := by
    rw [e2]
    unfold coV
    rw [List.map_append, cellsV_append, List.map_cons, cellsV_cons]
  have t1 : (cellsV (coV (L.take k)) ++ (x.cs ++ cellsV (coV (L.drop (k + 1))))).take (k * 6) = cellsV (coV (L.take k)) := List.take_left' hlen
  have t2 : (cellsV (coV (L.take k)) ++ (x.cs ++ cellsV (coV (L.drop (k + 1))))).drop (k * 6 + 6) = cellsV (coV (L.drop (k + 1))) := by
    rw [← List.append_assoc]
    exact List.drop_left' (by rw [List.length_append, hlen]; rfl)
  rw [arr_list, arr_list, c2, c1, t1, t2, List.append_assoc]
theorem six_fit {L : List Co} {k : Nat} {x : Co} (hx : L[k]? = some x) (hl : L.length = 8) : k * 6 + 6 ≤ (arr L).size := by
  have hk : k < L.length := by
    rcases Nat.lt_or_ge k L.length with h1 | h1
    · exact h1
    · rw [List.getElem?_eq_none h1] at hx; cases hx
  rw [arr_size hl]; omega
theorem set_arr {L : List Co} {k : Nat} {x : Co} (hx : L[k]? = some x) (y : Co) : ((arr L).toList.take (k * 6) ++ y.cs ++ (arr L).toList.drop (k * 6 + 6)).toArray = arr (L.set k y) := by
  rw [← arr_set hx y]
/-- An owner is stored, in the walk. -/
theorem wpList_storeO {ops : Array Oper} {rest : List Oper} {d : Option Tmp} {ty : TypeId} {ps : String} {af : Array Edge} {x y : Operand} {a : Act} {w : World} {Q : Exit → Act → World → Prop} {b k : Nat} {t : TypeId} {L : List Co} {o o' : Co}
    (hx : a.eval x = .pointer (some ⟨b, k * 6, none⟩)) (hy : a.eval y = .agg #[.int .i64 o'.o.s, .int .i64 o'.o.r.why, .bool o'.o.r.fnd, .string o'.o.r.val, .int .i64 o'.o.r.ver, .slice o'.A o'.o.r.l.length o'.c]) (R : Row w b t (arr L)) (hl : L.length = 8) (ho : L[k]? = some o)
    (h : wpList Try.prog ops Q rest (a.put d undef) (w.setRow b (arr (L.set k o')))) :
    wpList Try.prog ops Q ({ dst := d, op := .store 27 x y, type := ty, pos := ps, after := af, guard := none } :: rest) a w :=
  wpList_plain rfl fun K hK => by
    have hs := run_storeCells_at Try.prog b (k * 6) t o'.cs 0 (arr L) w R (by have := six_fit ho hl; simpa [Co.cs] using this) (by intro u hu; simp [Co.cs, Co.p] at hu; rcases hu with rfl | rfl | rfl | rfl | rfl | rfl <;> rfl)
    rw [Nat.add_zero, show o'.cs.length = 6 from rfl, set_arr ho o'] at hs
    have hi : (Try.prog.info? 27).map (·.size) = some 6 := by kernel_rfl
    have hv : (storeVar 27 ⟨b, k * 6, none⟩ (.agg #[.int .i64 o'.o.s, .int .i64 o'.o.r.why, .bool o'.o.r.fnd, .string o'.o.r.val, .int .i64 o'.o.r.ver, .slice o'.A o'.o.r.l.length o'.c])).run Try.prog w = .ok () (w.setRow b (arr (L.set k o'))) := by
      cases hq : Try.prog.info? 27 with
      | none => simp [hq] at hi
      | some i =>
        have hs6 : i.size = 6 := by simpa [hq] using hi
        simp only [Co.cs, Co.p] at hs
        simp [storeVar, sizeOf, typeInfo, hq, Value.cells, hs6, hs]
    unfold Oper.wp execOp
    simp only [hx, hy, Instr.storeAt, Instr.sureAddr, Sem.run_bind, Sem.run_pure, Result.andThen_ok, hv]
    exact hK _ _ h
/-- A reply is stored into an owner, in the walk. -/
theorem wpList_storeR {ops : Array Oper} {rest : List Oper} {d : Option Tmp} {ty : TypeId} {ps : String} {af : Array Edge} {x y : Operand} {a : Act} {w : World} {Q : Exit → Act → World → Prop} {b k : Nat} {t : TypeId} {L : List Co} {o : Co} {r : Re} {A : Option Addr} {c : Nat}
    (hx : a.eval x = .pointer (some ⟨b, k * 6 + 1, none⟩)) (hy : a.eval y = .agg #[.int .i64 r.why, .bool r.fnd, .string r.val, .int .i64 r.ver, .slice A r.l.length c]) (R : Row w b t (arr L)) (hl : L.length = 8) (ho : L[k]? = some o)
    (h : wpList Try.prog ops Q rest (a.put d undef) (w.setRow b (arr (L.set k ⟨⟨o.o.s, r⟩, A, c⟩)))) :
    wpList Try.prog ops Q ({ dst := d, op := .store 25 x y, type := ty, pos := ps, after := af, guard := none } :: rest) a w :=
  wpList_plain rfl fun K hK => by
    have h6 := six_fit ho hl
    have hs := run_storeCells_at Try.prog b (k * 6 + 1) t [.int .i64 r.why, .bool r.fnd, .string r.val, .int .i64 r.ver, .slice A r.l.length c] 0 (arr L) w R (by simp only [List.length_cons, List.length_nil]; omega) (by intro u hu; simp at hu; rcases hu with rfl | rfl | rfl | rfl | rfl <;> rfl)
    have e0 : (arr L).toList.take (k * 6 + 1) = (arr L).toList.take (k * 6) ++ [.int .i64 o.o.s] := by
      rw [List.take_add_one]
      have := arr_at ho 0 (by omega)
      rw [← Array.getElem?_toList] at this
      rw [show k * 6 = k * 6 + 0 from rfl, this]; rfl
    have e1 : (arr L).toList.take (k * 6 + 1 + 0) ++ [.int .i64 r.why, .bool r.fnd, .string r.val, .int .i64 r.ver, .slice A r.l.length c] ++ (arr L).toList.drop (k * 6 + 1 + 0 + [Value.int .i64 r.why, .bool r.fnd, .string r.val, .int .i64 r.ver, .slice A r.l.length c].length) = (arr L).toList.take (k * 6) ++ Co.cs ⟨⟨o.o.s, r⟩, A, c⟩ ++ (arr L).toList.drop (k * 6 + 6) := by
      rw [Nat.add_zero, e0, List.append_assoc ((arr L).toList.take (k * 6))]
      rfl
    rw [e1, set_arr ho] at hs
    have hi : (Try.prog.info? 25).map (·.size) = some 5 := by kernel_rfl
    have hv : (storeVar 25 ⟨b, k * 6 + 1, none⟩ (.agg #[.int .i64 r.why, .bool r.fnd, .string r.val, .int .i64 r.ver, .slice A r.l.length c])).run Try.prog w = .ok () (w.setRow b (arr (L.set k ⟨⟨o.o.s, r⟩, A, c⟩))) := by
      cases hq : Try.prog.info? 25 with
      | none => simp [hq] at hi
      | some i =>
        have hs6 : i.size = 5 := by simpa [hq] using hi
        simp [storeVar, sizeOf, typeInfo, hq, Value.cells, hs6, hs]
    unfold Oper.wp execOp
    simp only [hx, hy, Instr.storeAt, Instr.sureAddr, Sem.run_bind, Sem.run_pure, Result.andThen_ok, hv]
    exact hK _ _ h
/-- All eight out of a block. -/
theorem results8 {fn : Func} {tmps : Array Value} {w : World} {a h : Nat} {t : TypeId} {M : List Co} (hf : fn.results = #[.cell a 28]) (ht : tmps[a]? = some (.pointer (some ⟨h, 0, none⟩))) (hr : Row w h t (arr M)) (hl : M.length = 8) :
    (results fn tmps).run Try.prog w = .ok (.agg (arr M)) w := by
  have hld := run_loadVar_row w h t 28 (arr M) (0, 0) _ hr under_eight rfl (arr_eight hl)
  simp only [results, hf]
  simp [asAddr, ht, hld]
def zeroC : Co := ⟨zeroO, none, 0⟩
def zeroL : List Co := [zeroC, zeroC, zeroC, zeroC, zeroC, zeroC, zeroC, zeroC]
theorem zero_arr : (#[.int .i64 0, .int .i64 0, .bool false, .string { data := #[] }, .int .i64 0, .slice none 0 0, .int .i64 0, .int .i64 0, .bool false, .string { data := #[] }, .int .i64 0, .slice none 0 0, .int .i64 0, .int .i64 0, .bool false, .string { data := #[] }, .int .i64 0, .slice none 0 0, .int .i64 0, .int .i64 0, .bool false, .string { data := #[] }, .int .i64 0, .slice none 0 0, .int .i64 0, .int .i64 0, .bool false, .string { data := #[] }, .int .i64 0, .slice none 0 0, .int .i64 0, .int .i64 0, .bool false, .string { data := #[] }, .int .i64 0, .slice none 0 0, .int .i64 0, .int .i64 0, .bool false, .string { data := #[] }, .int .i64 0, .slice none 0 0, .int .i64 0, .int .i64 0, .bool false, .string { data := #[] }, .int .i64 0, .slice none 0 0] : Array Value) = arr zeroL := rfl
theorem zero_fine (w : World) : Fine w zeroL := ⟨rfl, fun x hx => by
  have : x = zeroC := by
    unfold zeroL at hx
    simp at hx
    exact hx
  subst this
  exact ⟨Pin.nil_ w, Nat.zero_le _⟩⟩
end Go.Proofs.Ytahfpncfkcfogaa
/- Package dedup's Note. Conditions: the lists of pairs lie in memory, none is great. -/
namespace Go.Proofs.Ytahfpncfkcfogaa
open Go.RowKit
def noteO (l : List Ow) (c s : Int) (r : Re) : List Ow := if cliB c = true then l.set (c - 1).toNat ⟨s, r⟩ else l
/-- Eight owners whose pairs are new are answered. -/
def AnsN (w : World) (l : List Ow) (e : Ending) (w' : World) : Prop := ∃ M, e = .returned (.agg (arr M)) ∧ ows M = l ∧ M.length = 8 ∧ (∀ x, x ∈ M → Mine w.heap.size w' x.p x.o.r.l) ∧ Below w.heap.size w w'
theorem ows_len (L : List Co) : (ows L).length = L.length := List.length_map _
theorem ows_set (L : List Co) (k : Nat) (y : Co) : ows (L.set k y) = (ows L).set k y.o := by unfold ows; rw [List.map_set]
theorem Mine.setRow {b : Nat} {w : World} {v : Value} {l : List Pr} (h : Mine b w v l) {g : Nat} (hg : g < b) (cs : Array Value) : Mine b (w.setRow g cs) v l := by
  have hl := h.lt
  unfold Mine at h ⊢
  refine h.kept (setRow_grown w g cs) ?_
  cases hv : v.ownBlock with
  | none => exact .inl rfl
  | some k => exact .inr (fun e => by
      have h1 := hl k hv
      injection e with e
      omega)
/-- Behind a round: the first k are new. -/
structure Nk (W w : World) (L : List Ow) (M : List Co) (k : Nat) : Prop where
  row : Row w W.heap.size 28 (arr M)
  res : Row w (W.heap.size + 1 + 1) 28 (arr zeroL)
  is : ows M = L
  len : M.length = 8
  new : ∀ j x, j < k → M[j]? = some x → Mine (W.heap.size + 1 + 1 + 1) w x.p x.o.r.l
  old : ∀ j x, k ≤ j → M[j]? = some x → Pin W x.p x.o.r.l ∧ x.o.r.l.length ≤ 3518437208780
  bel : Below W.heap.size W w
/-- The three blocks that the call begins with. -/
structure N0 (W w : World) (L : List Co) (r : Re) (p : Value) : Prop where
  row : Row w W.heap.size 28 (arr L)
  rep : Row w (W.heap.size + 1) 25 #[.int .i64 r.why, .bool r.fnd, .string r.val, .int .i64 r.ver, p]
  res : Row w (W.heap.size + 1 + 1) 28 (arr zeroL)
  bel : Below W.heap.size W w
theorem N0.new (w : World) (L : List Co) (r : Re) (p : Value) : N0 w (((w.alloc (.cells (arr L) 28)).alloc (.cells #[.int .i64 r.why, .bool r.fnd, .string r.val, .int .i64 r.ver, p] 25)).alloc (.cells (arr zeroL) 28)) L r p := by
  have R0 := Row.new w 28 (arr L)
  have B0 := kept_alloc (kept_refl w) (.cells (arr L) 28)
  have s0 : (w.alloc (.cells (arr L) 28)).heap.size = w.heap.size + 1 := by simp
  generalize w.alloc (.cells (arr L) 28) = w1 at *
  have R1 := Row.new w1 25 #[.int .i64 r.why, .bool r.fnd, .string r.val, .int .i64 r.ver, p]
  have B1 := kept_alloc B0 (.cells #[.int .i64 r.why, .bool r.fnd, .string r.val, .int .i64 r.ver, p] 25)
  have R01 := R0.alloc (.cells #[.int .i64 r.why, .bool r.fnd, .string r.val, .int .i64 r.ver, p] 25)
  have s1 : (w1.alloc (.cells #[.int .i64 r.why, .bool r.fnd, .string r.val, .int .i64 r.ver, p] 25)).heap.size = w.heap.size + 1 + 1 := by simp [s0]
  rw [s0] at R1
  generalize w1.alloc (.cells #[.int .i64 r.why, .bool r.fnd, .string r.val, .int .i64 r.ver, p] 25) = w2 at *
  have R2 := Row.new w2 28 (arr zeroL)
  rw [s1] at R2
  exact ⟨R01.alloc _, R1.alloc _, R2, kept_alloc B1 _⟩
theorem N0.same {W w : World} {L : List Co} {r : Re} {p : Value} (h : N0 W w L r p) (hf : Fine W L) : Nk W w (ows L) L 0 :=
  ⟨h.row, h.res, rfl, hf.1, fun j x hj => absurd hj (by omega), fun j x _ hx => hf.2 x (List.mem_of_getElem? hx), h.bel⟩
theorem N0.set {W w : World} {L : List Co} {r : Re} {A : Option Addr} {q k : Nat} {s : Int} (h : N0 W w L r (.slice A r.l.length q)) (hf : Fine W L) (hr : Pin W (.slice A r.l.length q) r.l) (ln : r.l.length ≤ 3518437208780) :
    Nk W (w.setRow W.heap.size (arr (L.set k ⟨⟨s, r⟩, A, q⟩))) ((ows L).set k ⟨s, r⟩) (L.set k ⟨⟨s, r⟩, A, q⟩) 0 :=
  ⟨h.row.setRow _, h.res.setRow_other (by omega) _, ows_set L k _, by rw [List.length_set]; exact hf.1, fun j x hj => absurd hj (by omega), fun j x _ hx => by
    rw [List.getElem?_set] at hx
    split at hx
    · split at hx
      · cases hx; exact ⟨hr, ln⟩
      · cases hx
    · exact hf.2 x (List.mem_of_getElem? hx), below_setRow h.bel (Nat.le_refl _) _⟩
theorem Nk.at_ {W w : World} {L : List Ow} {M : List Co} {k : Nat} (h : Nk W w L M k) (hk : k < 8) : ∃ x, M[k]? = some x ∧ Pin w x.p x.o.r.l ∧ x.o.r.l.length ≤ 3518437208780 := by
  obtain ⟨x, hx⟩ : ∃ x, M[k]? = some x := ⟨_, List.getElem?_eq_getElem (by rw [h.len]; exact hk)⟩
  have := h.old k x (Nat.le_refl _) hx
  exact ⟨x, hx, this.1.below h.bel, this.2⟩
theorem set_at {M : List Co} {k j : Nat} {x y : Co} (hx : (M.set k y)[j]? = some x) : (j = k ∧ x = y) ∨ (j ≠ k ∧ M[j]? = some x) := by
  rw [List.getElem?_set] at hx
  split at hx
  · rename_i e
    split at hx
    · cases hx; exact .inl ⟨e.symm, rfl⟩
    · cases hx
  · rename_i e
    exact .inr ⟨fun h => e h.symm, hx⟩
theorem Nk.next {W w w' : World} {L : List Ow} {M : List Co} {k : Nat} {x : Co} {A : Option Addr} {c : Nat} (h : Nk W w L M k) (hx : M[k]? = some x) (hm : Mine w.heap.size w' (.slice A x.o.r.l.length c) x.o.r.l) (hb : Below w.heap.size w w') :
    Nk W (w'.setRow W.heap.size (arr (M.set k ⟨⟨x.o.s, x.o.r⟩, A, c⟩))) L (M.set k ⟨⟨x.o.s, x.o.r⟩, A, c⟩) (k + 1) := by
  have g2 := h.res.lt
  have g0 := h.row.lt
  refine ⟨(h.row.below hb g0).setRow _, (h.res.below hb g2).setRow_other (by omega) _, ?_, by rw [List.length_set]; exact h.len, fun j y hj hy => ?_, fun j y hj hy => ?_, below_setRow (h.bel.trans (hb.mono (Nat.le_of_lt g0))) (Nat.le_refl _) _⟩
  · rw [ows_set, ← h.is]
    apply List.ext_getElem?
    intro j
    rw [List.getElem?_set]
    split
    · rename_i e
      subst e
      rw [ows_at hx]
      split
      · rfl
      · rename_i hn
        rw [ows_len] at hn
        rw [List.getElem?_eq_none (by omega)] at hx; cases hx
    · rfl
  · rcases set_at hy with ⟨rfl, rfl⟩ | ⟨hne, hy⟩
    · exact (hm.mono (by omega)).setRow (by omega) _
    · exact ((h.new j y (by omega) hy).below hb).setRow (by omega) _
  · rcases set_at hy with ⟨rfl, rfl⟩ | ⟨_, hy⟩
    · omega
    · exact h.old j y (by omega) hy
theorem Nk.done {W w : World} {L : List Ow} {M : List Co} (h : Nk W w L M 8) : AnsN W L (.returned (.agg (arr M))) (w.setRow (W.heap.size + 1 + 1) (arr M)) :=
  ⟨M, rfl, h.is, h.len, fun x hx => by
    obtain ⟨j, hj⟩ := List.getElem?_of_mem hx
    have hl : j < M.length := by
      rcases Nat.lt_or_ge j M.length with h1 | h1
      · exact h1
      · rw [List.getElem?_eq_none h1] at hj; cases hj
    exact ((h.new j x (by rw [h.len] at hl; exact hl) hj).setRow (by omega) _).mono (by omega), below_setRow h.bel (by omega) _⟩
set_option maxRecDepth 100000 in
set_option maxHeartbeats 8000000 in
theorem note_any (L : List Co) (c s : Int) (r : Re) (A : Option Addr) (q : Nat) (w : World) (h : Fine w L) (hr : Pin w (.slice A r.l.length q) r.l) (ln : r.l.length ≤ 3518437208780) :
    Calls Try.prog 40 #[.agg (arr L), .int .i64 c, .int .i64 s, .agg #[.int .i64 r.why, .bool r.fnd, .string r.val, .int .i64 r.ver, .slice A r.l.length q]] w (AnsN w (noteO (ows L) c s r)) := by
  have HC := hide (fun w => cli_any c w)
  have HN := hide (N0.new w L r (.slice A r.l.length q))
  have HF := hide h
  have HP := hide hr
  clear h hr
  cases hc : cliB c
  · have e : noteO (ows L) c s r = ows L := by unfold noteO; rw [hc]; rfl
    rw [e]
    obtain ⟨V, hV⟩ : ∃ V, ows L = V := ⟨_, rfl⟩
    rw [hV]
    have HV := hide hV
    rw [hc] at HC
    clear e hc hV
    go_enter Try.func40, Try.ntmps40
    go_upto_region 1 with (fail)
    rw [zero_arr]
    generalize ((w.alloc (.cells (arr L) 28)).alloc (.cells #[.int .i64 r.why, .bool r.fnd, .string r.val, .int .i64 r.ver, .slice A r.l.length q] 25)).alloc (.cells (arr zeroL) 28) = w3 at HN ⊢
    have HK := hide (HN.out.same HF.out)
    rw [HV.out] at HK
    go_upto_region 3 with (go_at_call 73; (with_reducible refine (HC.out _).mono ?_); rintro e w1 ⟨rfl, rfl⟩)
    go_wp2
    go_loopw [18] (fun i wr => ∃ (k : Nat) (M : List Co), k ≤ 8 ∧ i = .int .i64 k ∧ Hid (Nk w wr V M k)) (fun i _ => 8 - (intOf i).toNat)
    case atStart => exact ⟨0, _, by omega, rfl, HK⟩
    case round =>
      obtain ⟨k, M, hk, rfl, HM⟩ := hrel
      by_cases hlt : k < 8
      · obtain ⟨x, hx, hp, hn⟩ := HM.out.at_ hlt
        obtain ⟨d0, d1, d2, d3, d4, d5⟩ := HM.out.row.owner hx
        have hlt' : (k : Int) < 8 := by omega
        have HX := hide hx
        have HA := hide (apart_any x.o.r _ wr hp hn)
        have H8 := hide HM.out.len
        have g0 := HM.out.row.lt
        clear hx hp hn d0
        unfold Co.p at d5 HA
        go_wp2_with (first | (go_at_call 74; (with_reducible refine HA.out.mono ?_); rintro e w4 ⟨p, rfl, ho4, hb4⟩; obtain ⟨A4, c4, rfl, _, _, _, _⟩ := ho4.pin; have S := hide (HM.out.row.below hb4 g0)) | ((with_reducible refine wpList_storeR (k := k) (r := x.o.r) (A := A4) (c := c4) ?_ ?_ S.out H8.out HX.out ?_); rfl; rfl))
        go_roundw
        case rel => exact ⟨k + 1, _, by omega, by go_num, hide (HM.out.next HX.out ho4 hb4)⟩
        case measure => simp [intOf]; omega
      · obtain rfl : k = 8 := by omega
        have R0 := hide HM.out.row
        have R2 := hide HM.out.res
        have H8 := hide HM.out.len
        go_wp2_with (first | ((with_reducible refine wpList_load8 ?_ R0.out H8.out ?_); rfl) | ((with_reducible refine wpList_store8 ?_ ?_ R2.out (L := zeroL) rfl H8.out ?_); rfl; rfl))
        exact bodyPost_ret (results8 Try.results40 rfl (R2.out.setRow _) H8.out) rfl HM.out.done
  · obtain ⟨k, hk, hk1, hk2, hk3⟩ := cli_place hc
    have e : noteO (ows L) c s r = (ows L).set k ⟨s, r⟩ := by unfold noteO; rw [if_pos hc, hk2]
    rw [e]
    obtain ⟨V, hV⟩ : ∃ V, (ows L).set k ⟨s, r⟩ = V := ⟨_, rfl⟩
    rw [hV]
    have HV := hide hV
    rw [hc] at HC
    obtain ⟨x, hx⟩ : ∃ x, L[k]? = some x := ⟨_, List.getElem?_eq_getElem (by rw [HF.out.1]; exact hk)⟩
    have HX := hide hx
    have H8 := hide HF.out.1
    clear e hc hV hk1 hk2 hx
    go_enter Try.func40, Try.ntmps40
    go_upto_region 1 with (fail)
    rw [zero_arr]
    generalize ((w.alloc (.cells (arr L) 28)).alloc (.cells #[.int .i64 r.why, .bool r.fnd, .string r.val, .int .i64 r.ver, .slice A r.l.length q] 25)).alloc (.cells (arr zeroL) 28) = w3 at HN ⊢
    have HK := hide (HN.out.set (k := k) (s := s) HF.out HP.out ln)
    rw [HV.out] at HK
    obtain ⟨d0, d1, d2, d3, d4⟩ := HN.out.rep.five
    have S := hide HN.out.row
    go_upto_region 3 with (first | (go_at_call 73; (with_reducible refine (HC.out _).mono ?_); rintro e w1 ⟨rfl, rfl⟩) | ((with_reducible refine wpList_storeO (k := k) (o' := ⟨⟨s, r⟩, A, q⟩) ?_ ?_ S.out H8.out HX.out ?_); rfl; rfl))
    clear d0 d1 d2 d3 d4 S HX H8 hk hk3
    generalize w3.setRow w.heap.size (arr (L.set k ⟨⟨s, r⟩, A, q⟩)) = w4 at HK ⊢
    go_wp2
    go_loopw [18] (fun i wr => ∃ (k : Nat) (M : List Co), k ≤ 8 ∧ i = .int .i64 k ∧ Hid (Nk w wr V M k)) (fun i _ => 8 - (intOf i).toNat)
    case atStart => exact ⟨0, _, by omega, rfl, HK⟩
    case round =>
      obtain ⟨k, M, hk, rfl, HM⟩ := hrel
      by_cases hlt : k < 8
      · obtain ⟨x, hx, hp, hn⟩ := HM.out.at_ hlt
        obtain ⟨d0, d1, d2, d3, d4, d5⟩ := HM.out.row.owner hx
        have hlt' : (k : Int) < 8 := by omega
        have HX := hide hx
        have HA := hide (apart_any x.o.r _ wr hp hn)
        have H8 := hide HM.out.len
        have g0 := HM.out.row.lt
        clear hx hp hn d0
        unfold Co.p at d5 HA
        go_wp2_with (first | (go_at_call 74; (with_reducible refine HA.out.mono ?_); rintro e w4 ⟨p, rfl, ho4, hb4⟩; obtain ⟨A4, c4, rfl, _, _, _, _⟩ := ho4.pin; have S := hide (HM.out.row.below hb4 g0)) | ((with_reducible refine wpList_storeR (k := k) (r := x.o.r) (A := A4) (c := c4) ?_ ?_ S.out H8.out HX.out ?_); rfl; rfl))
        go_roundw
        case rel => exact ⟨k + 1, _, by omega, by go_num, hide (HM.out.next HX.out ho4 hb4)⟩
        case measure => simp [intOf]; omega
      · obtain rfl : k = 8 := by omega
        have R0 := hide HM.out.row
        have R2 := hide HM.out.res
        have H8 := hide HM.out.len
        go_wp2_with (first | ((with_reducible refine wpList_load8 ?_ R0.out H8.out ?_); rfl) | ((with_reducible refine wpList_store8 ?_ ?_ R2.out (L := zeroL) rfl H8.out ?_); rfl; rfl))
        exact bodyPost_ret (results8 Try.results40 rfl (R2.out.setRow _) H8.out) rfl HM.out.done
end Go.Proofs.Ytahfpncfkcfogaa
