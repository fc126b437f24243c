/- A reply in plain words; package dedup's apart, isClient, isZero, isRight; the document's Replies, rightReply. Conditions: its pairs lie in memory, their number has room. -/
import Derived.Test.YtjadbppcjndmlaaRi
import Derived.Test.YtjadbppcjndmlaaRr
import Derived.Test.YtjadbppcjndmlaaSa
namespace Go.Proofs.Ytjadbppcjndmlaa
open Go.RowKit
/-- A reply. -/
structure Re where
  why : Int
  fnd : Bool
  val : ByteArray
  ver : Int
  l : List Pr
deriving DecidableEq
def zeroR : Re := ⟨0, false, nilT, 0, []⟩
/-- May a client have the number? -/
def cliB (c : Int) : Bool := decide (1 ≤ c) && decide (c ≤ 8)
theorem cli_any (c : Int) (w : World) : Calls Try.prog 17 #[.int .i64 c] w fun e w' => e = .returned (.bool (cliB c)) ∧ w = w' := by
  by_cases h1 : 1 ≤ c
  · by_cases h2 : c ≤ 8
    · have e : cliB c = true := by unfold cliB; rw [decide_eq_true h1, decide_eq_true h2]; rfl
      rw [e]
      go_enter Try.func17, Try.ntmps17
      go_wp2
      go_ret
      exact ⟨rfl, rfl⟩
    · have e : cliB c = false := by unfold cliB; rw [decide_eq_false h2, Bool.and_false]
      rw [e]
      go_enter Try.func17, Try.ntmps17
      go_wp2
      go_ret
      exact ⟨rfl, rfl⟩
  · have e : cliB c = false := by unfold cliB; rw [decide_eq_false h1, Bool.false_and]
    rw [e]
    go_enter Try.func17, Try.ntmps17
    go_wp2
    go_ret
    exact ⟨rfl, rfl⟩
theorem Row.five {w : World} {g : Nat} {t : TypeId} {c0 c1 c2 c3 c4 : Value} (h : Row w g t #[c0, c1, c2, c3, c4]) : w.cell? ⟨g, 0, none⟩ = some c0 ∧ w.cell? ⟨g, 1, none⟩ = some c1 ∧ w.cell? ⟨g, 2, none⟩ = some c2 ∧ w.cell? ⟨g, 3, none⟩ = some c3 ∧ w.cell? ⟨g, 4, none⟩ = some c4 := ⟨h.cell 0, h.cell 1, h.cell 2, h.cell 3, h.cell 4⟩
theorem results_row5 {fn : Func} {tmps : Array Value} {w : World} {a h : Nat} {t : TypeId} {c0 c1 c2 c3 c4 : Value} (hf : fn.results = #[.cell a 25]) (ht : tmps[a]? = some (.pointer (some ⟨h, 0, none⟩))) (hr : Row w h t #[c0, c1, c2, c3, c4]) :
    (results fn tmps).run Try.prog w = .ok (.agg #[c0, c1, c2, c3, c4]) w := by
  obtain ⟨h0, h1, h2, h3, h4⟩ := hr.five
  simp [results, hf, ht, go_sem, h0, h1, h2, h3, h4]
/-- A reply whose pairs are new is answered. -/
def AnsR (w : World) (r : Re) (e : Ending) (w' : World) : Prop := ∃ p, e = .returned (.agg #[.int .i64 r.why, .bool r.fnd, .string r.val, .int .i64 r.ver, p]) ∧ Mine w.heap.size w' p r.l ∧ Below w.heap.size w w'
theorem five_put {a b c d e u0 u1 u2 u3 u4 : Value} : (((((#[a, b, c, d, e] : Array Value).setIfInBounds 0 u0).setIfInBounds 1 u1).setIfInBounds 2 u2).setIfInBounds 3 u3).setIfInBounds 4 u4 = #[u0, u1, u2, u3, u4] := by
  simp
/-- All five cells are written. -/
theorem Row.five_put {w : World} {h : Nat} {t : TypeId} {a b c d e : Value} (r : Row w h t #[a, b, c, d, e]) (u0 u1 u2 u3 u4 : Value) :
    Row (((((w.setCell ⟨h, 0, none⟩ u0).setCell ⟨h, 1, none⟩ u1).setCell ⟨h, 2, none⟩ u2).setCell ⟨h, 3, none⟩ u3).setCell ⟨h, 4, none⟩ u4) h t #[u0, u1, u2, u3, u4] := by
  have z := ((((r.put 0 u0).put 1 u1).put 2 u2).put 3 u3).put 4 u4
  rw [Go.Proofs.Ytjadbppcjndmlaa.five_put] at z
  exact z
theorem Mine.put {b : Nat} {w : World} {v : Value} {l : List Pr} (h : Mine b w v l) {g : Nat} (hg : g < b) (i : Nat) (u : Value) : Mine b (w.setCell ⟨g, i, none⟩ u) v l := by
  unfold Mine at h ⊢
  exact ownsRow_setCell_below h hg u
set_option maxRecDepth 100000 in
set_option maxHeartbeats 2000000 in
theorem apart_any (r : Re) (p : Value) (w : World) (h : Pin w p r.l) (ln : r.l.length ≤ 3518437208780) :
    Calls Try.prog 18 #[.agg #[.int .i64 r.why, .bool r.fnd, .string r.val, .int .i64 r.ver, p]] w (AnsR w r) := by
  obtain ⟨A, c, rfl, hA, hc, hcc, hl⟩ := h
  have HL := hide hl
  clear hl
  go_enter Try.func18, Try.ntmps18
  go_upto_region 1 with (fail)
  have R1 := (Row.new w 25 #[.int .i64 r.why, .bool r.fnd, .string r.val, .int .i64 r.ver, .slice A r.l.length c]).alloc (.cells #[.int .i64 0, .bool false, .string { data := #[] }, .int .i64 0, .slice none 0 0] 25)
  have R2 := Row.new (w.alloc (.cells #[.int .i64 r.why, .bool r.fnd, .string r.val, .int .i64 r.ver, .slice A r.l.length c] 25)) 25 #[.int .i64 0, .bool false, .string { data := #[] }, .int .i64 0, .slice none 0 0]
  have hs : (w.alloc (.cells #[.int .i64 r.why, .bool r.fnd, .string r.val, .int .i64 r.ver, .slice A r.l.length c] 25)).heap.size = w.heap.size + 1 := by simp
  rw [hs] at R2
  clear hs
  have hb := kept_alloc (kept_alloc (kept_refl w) (.cells #[.int .i64 r.why, .bool r.fnd, .string r.val, .int .i64 r.ver, .slice A r.l.length c] 25)) (.cells #[.int .i64 0, .bool false, .string { data := #[] }, .int .i64 0, .slice none 0 0] 25)
  have hl2 := HL.out.below hb
  have HB := hide hb
  generalize ((w.alloc (.cells #[.int .i64 r.why, .bool r.fnd, .string r.val, .int .i64 r.ver, .slice A r.l.length c] 25)).alloc (.cells #[.int .i64 0, .bool false, .string { data := #[] }, .int .i64 0, .slice none 0 0] 25)) = w2 at R1 R2 hl2 HB ⊢
  have HC := hide (concat1 (t' := 23) rfl hl2 hA ln)
  have g0 : w.heap.size < w2.heap.size := R1.lt
  have g1 : w.heap.size + 1 < w2.heap.size := R2.lt
  have HR1 := hide R1
  have HR2 := hide R2
  obtain ⟨c0, c1, c2, c3, c4⟩ := R1.five
  clear hb hl2 R1 R2
  go_upto_region 2 with (go_at_call 22; (with_reducible refine HC.out.mono ?_); rintro e w3 ⟨v3, rfl, ho3, hb3⟩; obtain ⟨A3, c3, rfl, _, _, _, _⟩ := ho3.pin; have S1 := HR1.out.below hb3 g0; have d4 := S1.cell 4; have f4 := S1.free 4)
  clear c0 c1 c2 c4
  have S1 := HR1.out.below hb3 g0
  have S2 := HR2.out.below hb3 g1
  have T1 := S1.put 4 (.slice A3 r.l.length c3)
  have T2 : Row (w3.setCell ⟨w.heap.size, 4, none⟩ (.slice A3 r.l.length c3)) (w.heap.size + 1) 25 _ := S2.same (Below.heap_setCell w3 ⟨w.heap.size, 4, none⟩ _ (w.heap.size + 1) (by simp))
  have HM := hide (ho3.put g0 4 (.slice A3 r.l.length c3))
  have HB3 := hide ((kept_trans HB.out hb3).setCell (p := ⟨w.heap.size, 4, none⟩) (Nat.le_refl _) (.slice A3 r.l.length c3))
  clear S1 S2 ho3 hb3 HR1 HR2 HC HB
  generalize (w3.setCell ⟨w.heap.size, 4, none⟩ (.slice A3 r.l.length c3)) = w4 at T1 T2 HM HB3 ⊢
  obtain ⟨c0, c1, c2, c5, c4⟩ := Row.five (T1.same rfl)
  obtain ⟨e0, e1, e2, e5, e4⟩ := T2.five
  have f0 := T2.free 0
  have f1 := T2.free 1
  have f2 := T2.free 2
  have f3 := T2.free 3
  have f4 := T2.free 4
  have HT := hide T2
  clear T1 T2
  go_wp2
  exact bodyPost_ret (results_row5 Try.results18 rfl (HT.out.five_put _ _ _ _ _)) rfl ⟨_, rfl, ((((((HM.out.put g1 0 _).put g1 1 _).put g1 2 _).put g1 3 _).put g1 4 _).mono (Nat.le_of_lt g0)), ((((HB3.out.setCell (p := ⟨w.heap.size + 1, 0, none⟩) (Nat.le_succ _) _).setCell (p := ⟨w.heap.size + 1, 1, none⟩) (Nat.le_succ _) _).setCell (p := ⟨w.heap.size + 1, 2, none⟩) (Nat.le_succ _) _).setCell (p := ⟨w.heap.size + 1, 3, none⟩) (Nat.le_succ _) _).setCell (p := ⟨w.heap.size + 1, 4, none⟩) (Nat.le_succ _) _⟩
end Go.Proofs.Ytjadbppcjndmlaa
