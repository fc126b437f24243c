/- Package dedup's Look. Conditions: the lists of pairs lie in memory, none is great. -/
import Derived.Test.YtjadbppcjndmlaaMa
namespace Go.Proofs.Ytjadbppcjndmlaa
open Go.RowKit
def ows (L : List Co) : List Ow := L.map Co.o
theorem ows_at {L : List Co} {k : Nat} {x : Co} (h : L[k]? = some x) : (ows L)[k]? = some x.o := by unfold ows; rw [List.getElem?_map, h]; rfl
/-- What a number of this owner is. -/
def seenO (o : Ow) (s : Int) : Int × Re := if o.s < s then (1, zeroR) else if s < o.s then (3, zeroR) else (2, o.r)
def lookO (l : List Ow) (c s : Int) : Int × Re := if cliB c = true then seenO ((l[(c - 1).toNat]?).getD zeroO) s else (0, zeroR)
/-- A number and a reply whose pairs are new are answered. -/
def AnsK (w : World) (kr : Int × Re) (e : Ending) (w' : World) : Prop := ∃ p, e = .returned (.tuple #[.int .i64 kr.1, .agg #[.int .i64 kr.2.why, .bool kr.2.fnd, .string kr.2.val, .int .i64 kr.2.ver, p]]) ∧ Mine w.heap.size w' p kr.2.l ∧ Below w.heap.size w w'
theorem results_look {fn : Func} {tmps : Array Value} {w : World} {a b h : Nat} {t : TypeId} {v c0 c1 c2 c3 c4 : Value} (hf : fn.results = #[.tmp a, .cell b 25]) (hv : tmps.getD a undef = v) (ht : tmps[b]? = some (.pointer (some ⟨h, 0, none⟩))) (hr : Row w h t #[c0, c1, c2, c3, c4]) :
    (results fn tmps).run Try.prog w = .ok (.tuple #[v, .agg #[c0, c1, c2, c3, c4]]) w := by
  obtain ⟨h0, h1, h2, h3, h4⟩ := hr.five
  subst hv
  simp [results, hf, ht, go_sem, h0, h1, h2, h3, h4]
theorem cli_place {c : Int} (h : cliB c = true) : ∃ k : Nat, k < 8 ∧ c = (k : Int) + 1 ∧ (c - 1).toNat = k ∧ IntKind.i64.wrap (c - 1) = (k : Int) := by
  unfold cliB at h
  simp only [Bool.and_eq_true, decide_eq_true_eq] at h
  refine ⟨(c - 1).toNat, by omega, by omega, rfl, ?_⟩
  rw [IntKind.wrap_i64]; omega
set_option maxRecDepth 100000 in
set_option maxHeartbeats 4000000 in
theorem look_any (L : List Co) (c s : Int) (w : World) (h : Fine w L) :
    Calls Try.prog 12 #[.agg (arr L), .int .i64 c, .int .i64 s] w (AnsK w (lookO (ows L) c s)) := by
  have HC := hide (fun w => cli_any c w)
  cases hc : cliB c
  · have e : lookO (ows L) c s = (0, zeroR) := by unfold lookO; rw [hc]; rfl
    rw [e]
    rw [hc] at HC
    clear e hc
    go_enter Try.func12, Try.ntmps12
    have R1 := Row.new (w.alloc (.cells (arr L) 28)) 25 #[.int .i64 0, .bool false, .string { data := #[] }, .int .i64 0, .slice none 0 0]
    have hs : (w.alloc (.cells (arr L) 28)).heap.size = w.heap.size + 1 := by simp
    rw [hs] at R1
    have HB := hide (kept_alloc (kept_alloc (kept_refl w) (.cells (arr L) 28)) (.cells #[.int .i64 0, .bool false, .string { data := #[] }, .int .i64 0, .slice none 0 0] 25))
    clear hs
    go_upto_region 1 with (fail)
    generalize ((w.alloc (.cells (arr L) 28)).alloc (.cells #[.int .i64 0, .bool false, .string { data := #[] }, .int .i64 0, .slice none 0 0] 25)) = w2 at R1 HB ⊢
    obtain ⟨e0, e1, e2, e3, e4⟩ := R1.five
    have f0 := R1.free 0
    have f1 := R1.free 1
    have f2 := R1.free 2
    have f3 := R1.free 3
    have f4 := R1.free 4
    have HR := hide R1
    clear R1
    go_wp2_with (go_at_call 17; (with_reducible refine (HC.out _).mono ?_); rintro e w1 ⟨rfl, rfl⟩)
    exact bodyPost_ret (results_look (v := .int .i64 0) Try.results12 rfl rfl (HR.out.five_put _ _ _ _ _)) rfl ⟨_, rfl, Mine.nil_ _ _, ((((HB.out.setCell (p := ⟨w.heap.size + 1, 0, none⟩) (Nat.le_succ _) _).setCell (p := ⟨w.heap.size + 1, 1, none⟩) (Nat.le_succ _) _).setCell (p := ⟨w.heap.size + 1, 2, none⟩) (Nat.le_succ _) _).setCell (p := ⟨w.heap.size + 1, 3, none⟩) (Nat.le_succ _) _).setCell (p := ⟨w.heap.size + 1, 4, none⟩) (Nat.le_succ _) _⟩
  · obtain ⟨k, hk, hk1, hk2, hk3⟩ := cli_place hc
    rw [hc] at HC
    obtain ⟨x, hx, hp, hn⟩ := h.at_ hk
    have e : lookO (ows L) c s = seenO x.o s := by unfold lookO; rw [if_pos hc, hk2, ows_at hx]; rfl
    obtain ⟨V, hV⟩ : ∃ V, seenO x.o s = V := ⟨_, rfl⟩
    rw [e, hV]
    have HV := hide hV
    clear e hc hk1 hk2 hV
    have R0 := (Row.new w 28 (arr L)).alloc (.cells #[.int .i64 0, .bool false, .string { data := #[] }, .int .i64 0, .slice none 0 0] 25)
    have R1 := Row.new (w.alloc (.cells (arr L) 28)) 25 #[.int .i64 0, .bool false, .string { data := #[] }, .int .i64 0, .slice none 0 0]
    have hs : (w.alloc (.cells (arr L) 28)).heap.size = w.heap.size + 1 := by simp
    rw [hs] at R1
    have HB := hide (kept_alloc (kept_alloc (kept_refl w) (.cells (arr L) 28)) (.cells #[.int .i64 0, .bool false, .string { data := #[] }, .int .i64 0, .slice none 0 0] 25))
    have HP := hide (hp.below HB.out)
    clear hs hp
    go_enter Try.func12, Try.ntmps12
    go_upto_region 1 with (fail)
    generalize ((w.alloc (.cells (arr L) 28)).alloc (.cells #[.int .i64 0, .bool false, .string { data := #[] }, .int .i64 0, .slice none 0 0] 25)) = w2 at R0 R1 HB HP ⊢
    obtain ⟨e0, e1, e2, e3, e4⟩ := R1.five
    obtain ⟨d0, d1, d2, d3, d4, d5⟩ := R0.owner hx
    have f0 := R1.free 0
    have f1 := R1.free 1
    have f2 := R1.free 2
    have f3 := R1.free 3
    have f4 := R1.free 4
    have HR := hide R1
    have HR0 := hide R0
    have g0 : w.heap.size + 1 < w2.heap.size := R1.lt
    clear R1 R0
    unfold Co.p at d5 HP
    go_upto_region 4 with (go_at_call 17; (with_reducible refine (HC.out _).mono ?_); rintro e w1 ⟨rfl, rfl⟩)
    have R3 := Row.new w2 27 #[.int .i64 x.o.s, .int .i64 x.o.r.why, .bool x.o.r.fnd, .string x.o.r.val, .int .i64 x.o.r.ver, .slice x.A x.o.r.l.length x.c]
    have kb := kept_alloc (kept_refl w2) (.cells #[.int .i64 x.o.s, .int .i64 x.o.r.why, .bool x.o.r.fnd, .string x.o.r.val, .int .i64 x.o.r.ver, .slice x.A x.o.r.l.length x.c] 27)
    have HR3 := hide (HR.out.below kb g0)
    have HB3 := hide (kept_trans HB.out kb)
    have HP3 := hide (HP.out.below kb)
    have g3 := Nat.lt_of_lt_of_le g0 kb.size
    clear e0 e1 e2 e3 e4 d0 d1 d2 d3 d4 d5 f0 f1 f2 f3 f4 HR HR0 HB HP kb
    generalize w2.alloc (.cells #[.int .i64 x.o.s, .int .i64 x.o.r.why, .bool x.o.r.fnd, .string x.o.r.val, .int .i64 x.o.r.ver, .slice x.A x.o.r.l.length x.c] 27) = w3 at R3 HR3 HB3 HP3 g3 ⊢
    generalize w2.heap.size = g2 at R3 ⊢
    obtain ⟨e0, e1, e2, e3, e4⟩ := HR3.out.five
    have f0 := HR3.out.free 0
    have f1 := HR3.out.free 1
    have f2 := HR3.out.free 2
    have f3 := HR3.out.free 3
    have f4 := HR3.out.free 4
    have d0 : w3.cell? ⟨g2, 0, none⟩ = some (.int .i64 x.o.s) := R3.cell 0
    have d1 : w3.cell? ⟨g2, 1, none⟩ = some (.int .i64 x.o.r.why) := R3.cell 1
    have d2 : w3.cell? ⟨g2, 2, none⟩ = some (.bool x.o.r.fnd) := R3.cell 2
    have d3 : w3.cell? ⟨g2, 3, none⟩ = some (.string x.o.r.val) := R3.cell 3
    have d4 : w3.cell? ⟨g2, 4, none⟩ = some (.int .i64 x.o.r.ver) := R3.cell 4
    have d5 : w3.cell? ⟨g2, 5, none⟩ = some (.slice x.A x.o.r.l.length x.c) := R3.cell 5
    clear R3
    by_cases h1 : x.o.s < s
    · have e : seenO x.o s = (1, zeroR) := by unfold seenO; rw [if_pos h1]
      obtain rfl : V = (1, zeroR) := HV.out.symm.trans e
      clear e
      go_wp2
      exact bodyPost_ret (results_look (v := .int .i64 1) Try.results12 rfl rfl (HR3.out.five_put _ _ _ _ _)) rfl ⟨_, rfl, Mine.nil_ _ _, ((((HB3.out.setCell (p := ⟨w.heap.size + 1, 0, none⟩) (Nat.le_succ _) _).setCell (p := ⟨w.heap.size + 1, 1, none⟩) (Nat.le_succ _) _).setCell (p := ⟨w.heap.size + 1, 2, none⟩) (Nat.le_succ _) _).setCell (p := ⟨w.heap.size + 1, 3, none⟩) (Nat.le_succ _) _).setCell (p := ⟨w.heap.size + 1, 4, none⟩) (Nat.le_succ _) _⟩
    · by_cases h2 : s < x.o.s
      · have e : seenO x.o s = (3, zeroR) := by unfold seenO; rw [if_neg h1, if_pos h2]
        obtain rfl : V = (3, zeroR) := HV.out.symm.trans e
        clear e
        go_wp2
        exact bodyPost_ret (results_look (v := .int .i64 3) Try.results12 rfl rfl (HR3.out.five_put _ _ _ _ _)) rfl ⟨_, rfl, Mine.nil_ _ _, ((((HB3.out.setCell (p := ⟨w.heap.size + 1, 0, none⟩) (Nat.le_succ _) _).setCell (p := ⟨w.heap.size + 1, 1, none⟩) (Nat.le_succ _) _).setCell (p := ⟨w.heap.size + 1, 2, none⟩) (Nat.le_succ _) _).setCell (p := ⟨w.heap.size + 1, 3, none⟩) (Nat.le_succ _) _).setCell (p := ⟨w.heap.size + 1, 4, none⟩) (Nat.le_succ _) _⟩
      · have e : seenO x.o s = (2, x.o.r) := by unfold seenO; rw [if_neg h1, if_neg h2]
        obtain rfl : V = (2, x.o.r) := HV.out.symm.trans e
        clear e
        have HA := hide (apart_any x.o.r _ w3 HP3.out hn)
        go_wp2_with (go_at_call 18; (with_reducible refine HA.out.mono ?_); rintro e w4 ⟨p, rfl, ho4, hb4⟩; obtain ⟨A4, c4, rfl, _, _, _, _⟩ := ho4.pin; have S := HR3.out.below hb4 g3; have k0 := S.cell 0; have k1 := S.cell 1; have k2 := S.cell 2; have k3 := S.cell 3; have k4 := S.cell 4; have j0 := S.free 0; have j1 := S.free 1; have j2 := S.free 2; have j3 := S.free 3; have j4 := S.free 4)
        exact bodyPost_ret (results_look (v := .int .i64 2) Try.results12 rfl rfl (S.five_put _ _ _ _ _)) rfl ⟨_, rfl, ((((((ho4.put g3 0 _).put g3 1 _).put g3 2 _).put g3 3 _).put g3 4 _).mono (Nat.le_of_lt (Nat.lt_trans (Nat.lt_succ_self _) g3))), ((((kept_trans HB3.out hb4).setCell (p := ⟨w.heap.size + 1, 0, none⟩) (Nat.le_succ _) _).setCell (p := ⟨w.heap.size + 1, 1, none⟩) (Nat.le_succ _) _).setCell (p := ⟨w.heap.size + 1, 2, none⟩) (Nat.le_succ _) _).setCell (p := ⟨w.heap.size + 1, 3, none⟩) (Nat.le_succ _) _ |>.setCell (p := ⟨w.heap.size + 1, 4, none⟩) (Nat.le_succ _) _⟩
end Go.Proofs.Ytjadbppcjndmlaa
