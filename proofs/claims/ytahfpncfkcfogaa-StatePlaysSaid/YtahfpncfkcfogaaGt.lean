/- The document's States; the program's Right. Conditions: the lists of pairs lie in memory, none is great. -/
import Derived.Test.YtahfpncfkcfogaaGp
import Derived.Test.YtahfpncfkcfogaaGk
namespace Go.Proofs.Ytahfpncfkcfogaa
set_option maxRecDepth 100000
open Go.RowKit
theorem all_ows (L : List Co) : (ows L).all mayO = rightO L := by
  unfold ows rightO
  rw [List.all_map]; rfl
theorem wpList_load8og {ops : Array Oper} {rest : List Oper} {d : Option Tmp} {ty : TypeId} {ps : String} {af : Array Edge} {gd : Option (Nat × Bool)} {x : Operand} {a : Act} {w : World} {Q : Exit → Act → World → Prop} {b : Nat} {t : TypeId} {p : Value} {L : List Co}
    (hw : Region.wanted ({ dst := d, op := .load 28 x, type := ty, pos := ps, after := af, guard := gd } : Oper) (yielded ops a.tmps) = true) (hx : a.eval x = .pointer (some ⟨b, 1, none⟩)) (R : Row w b t (stc p L)) (hl : L.length = 8) (h : wpList Try.prog ops Q rest (a.put d (.agg (arr L))) w) :
    wpList Try.prog ops Q ({ dst := d, op := .load 28 x, type := ty, pos := ps, after := af, guard := gd } :: rest) a w :=
  wpList_step fun K hK => by
    rw [if_pos hw]
    unfold Oper.wp execOp
    simp only [hx, Sem.run_bind, Sem.run_pure, load_owners R hl, Result.andThen_ok]
    exact hK _ _ h
set_option maxHeartbeats 8000000 in
theorem sright_any (p : Value) (L : List Co) (s : Sm) (w : World) (h : IsS w p L s) :
    Calls Try.prog 20 #[.agg (stc p L)] w fun e w' => e = .returned (.bool (rightSB s)) ∧ Below w.heap.size w w' := by
  have R0 := hide (Row.new w 30 (stc p L))
  have K0 := hide (kept_alloc (kept_refl w) (.cells (stc p L) 30))
  have HS := hide (h.below K0.out)
  have H8 := hide h.fine.1
  obtain ⟨A, c, rfl, _⟩ := h.pin
  clear h
  have HU : Hid (rightSB s = (rightB s.l && rightO L)) := hide (by unfold rightSB; rw [← HS.out.is, all_ows])
  go_enter Try.func20, Try.ntmps20
  go_upto_region 1 with (fail)
  generalize w.alloc (.cells (stc (.slice A s.l.length c) L) 30) = w1 at R0 K0 HS ⊢
  have c0 := R0.out.pairs49
  have H1 := hide (right_any (.slice A s.l.length c) s.l w1 HS.out.pin (by have := HS.out.room; omega))
  have H2 := hide (fun w2 (hb : Below w1.heap.size w1 w2) => rightO_any L w2 (HS.out.fine.below hb))
  obtain ⟨t, ht⟩ : ∃ t, rightB s.l = t := ⟨_, rfl⟩
  rw [ht] at H1 HU
  clear ht
  cases t
  case false =>
    go_wp2_with (go_at_call 46; (with_reducible refine H1.out.mono ?_); rintro e w2 ⟨rfl, hb2⟩)
    go_ret
    exact ⟨by rw [HU.out]; rfl, kept_trans K0.out hb2⟩
  case true =>
    go_wp2_with (first
      | (go_at_call 46; (with_reducible refine H1.out.mono ?_); rintro e w2 ⟨rfl, hb2⟩; have RS := hide (R0.out.below hb2 R0.out.lt))
      | ((with_reducible refine wpList_load8og ?_ ?_ RS.out H8.out ?_); rfl; rfl)
      | (go_at_call 47; (with_reducible refine (H2.out _ hb2).mono ?_); rintro e w3 ⟨rfl, hb3⟩))
    go_ret
    exact ⟨by rw [HU.out]; simp, kept_trans K0.out (kept_trans hb2 hb3)⟩
set_option maxHeartbeats 8000000 in
theorem states_any (p q : Value) (L M : List Co) (s t : Sm) (w : World) (h : IsS w p L s) (k : IsS w q M t) :
    Calls Try.prog 18 #[.agg (stc p L), .agg (stc q M)] w fun e w' => e = .returned (.bool (eqS s t)) ∧ Below w.heap.size w w' := by
  have R0 := hide (Row.new w 30 (stc p L))
  have K0 := hide (kept_alloc (kept_refl w) (.cells (stc p L) 30))
  have S0 : Hid ((w.alloc (.cells (stc p L) 30)).heap.size = w.heap.size + 1) := hide (by simp)
  have HS := hide h
  have HT := hide k
  obtain ⟨A, c, rfl, hA, hc, hcc, hz⟩ := h.pin
  obtain ⟨B, d, rfl, hB, hd, hdd, hy⟩ := k.pin
  clear hz hy
  have lz := h.room
  have ly := k.room
  clear h k
  go_enter Try.func18, Try.ntmps18
  go_upto_region 1 with (fail)
  generalize w.alloc (.cells (stc (.slice A s.l.length c) L) 30) = w1 at R0 K0 S0 ⊢
  have R1 := hide (Row.new w1 30 (stc (.slice B t.l.length d) M))
  rw [S0.out] at R1
  have R01 := hide (R0.out.alloc (.cells (stc (.slice B t.l.length d) M) 30))
  have K1 := hide (kept_alloc K0.out (.cells (stc (.slice B t.l.length d) M) 30))
  clear R0 K0 S0
  generalize w1.alloc (.cells (stc (.slice B t.l.length d) M) 30) = w2 at R1 R01 K1 ⊢
  have x4 := R01.out.pairs49
  have y4 := R1.out.pairs49
  have HZ : Hid (Prs w2 A s.l) := hide (by obtain ⟨A', c', e, _, _, _, hp⟩ := HS.out.pin.below K1.out; cases e; exact hp)
  have HY : Hid (Prs w2 B t.l) := hide (by obtain ⟨A', c', e, _, _, _, hp⟩ := HT.out.pin.below K1.out; cases e; exact hp)
  have HUL : Hid (s.l ≠ t.l → eqS s t = false) := hide (fun hn => by unfold eqS; rw [decide_eq_false hn]; rfl)
  have HUO : Hid (s.o ≠ t.o → eqS s t = false) := hide (fun hn => by unfold eqS; rw [decide_eq_false hn]; simp)
  have HUE : Hid (s.l = t.l → s.o = t.o → eqS s t = true) := hide (fun h1 h2 => by unfold eqS; rw [decide_eq_true h1, decide_eq_true h2]; rfl)
  have HSO := hide HS.out.is
  have HTO := hide HT.out.is
  have FL := hide (HS.out.fine.below K1.out)
  have FM := hide (HT.out.fine.below K1.out)
  clear HS HT
  have GLE := hide K1.out.size
  by_cases h4 : s.l.length = t.l.length
  case neg =>
    have HE := hide (HUL.out (fun e => h4 (congrArg List.length e)))
    have e4 := nat_ne s.l.length t.l.length
    rw [decide_eq_false h4] at e4
    clear h4
    go_wp2
    go_ret
    exact ⟨by rw [HE.out]; rfl, K1.out⟩
  have e4 := nat_ne s.l.length t.l.length
  rw [decide_eq_true h4] at e4
  have HL := hide h4
  clear h4
  go_wp2
  go_loopw [5] (fun i wr => ∃ k q : Nat, k ≤ s.l.length ∧ i = .int .i64 k ∧ wr = w2.drewN q ∧ Hid (∀ j, j < k → s.l[j]? = t.l[j]?)) (fun i _ => s.l.length - (intOf i).toNat)
  case atStart => exact ⟨0, 0, by omega, rfl, rfl, fun j hj => absurd hj (by omega)⟩
  case round =>
    obtain ⟨k, q, hk, rfl, rfl, hs⟩ := hrel
    by_cases hlt : k < s.l.length
    · have hl := HL.out
      have lt1 : k < t.l.length := by omega
      obtain ⟨x, hx⟩ : ∃ x, s.l[k]? = some x := ⟨_, List.getElem?_eq_getElem hlt⟩
      obtain ⟨y, hyy⟩ : ∃ x, t.l[k]? = some x := ⟨_, List.getElem?_eq_getElem lt1⟩
      obtain ⟨b1, o1, rfl, _, c0, c1, c2⟩ := HZ.out.at_ hx
      obtain ⟨b2, o2, rfl, _, d0, d1, d2⟩ := HY.out.at_ hyy
      have heq := neq_pair x y
      have HX := hide hx
      have HYY := hide hyy
      clear hx hyy hl
      by_cases he : x = y
      · rw [decide_eq_true he] at heq
        have HE := hide he
        clear he
        go_wp2
        go_quiet (fail)
        go_wp2
        go_roundw
        case rel => exact ⟨k + 1, _, by omega, by go_num, rfl, fun j hj => by
          rcases Nat.lt_or_ge j k with h1 | h1
          · exact hs.out j h1
          · obtain rfl : j = k := by omega
            rw [HX.out, HYY.out, HE.out]⟩
        case measure => simp [intOf]; omega
      · rw [decide_eq_false he] at heq
        have HE := hide (HUL.out (fun e => he (by
          have h1 := HX.out
          rw [e, HYY.out] at h1
          exact (Option.some.inj h1).symm)))
        clear he
        go_wp2
        go_quiet (fail)
        go_wp2
        go_ret
        exact ⟨by rw [HE.out]; rfl, by rw [World.drewN_drewN]; exact below_drewN' K1.out _⟩
    · have HLL : Hid (s.l = t.l) := hide (by
        apply List.ext_getElem?
        intro j
        rcases Nat.lt_or_ge j k with h1 | h1
        · exact hs.out j h1
        · rw [List.getElem?_eq_none (by omega), List.getElem?_eq_none (by have := HL.out; omega)])
      go_wp2
      have K2 := hide (kept_drewN (kept_refl w2) q)
      generalize w2.drewN q = w3 at K2 ⊢
      go_loopw [6] (fun i wr => ∃ k : Nat, k ≤ 8 ∧ i = .int .i64 k ∧ Hid (Below w2.heap.size w2 wr) ∧ Hid (∀ j, j < k → (ows L)[j]? = (ows M)[j]?)) (fun i _ => 8 - (intOf i).toNat)
      case atStart => exact ⟨0, by omega, rfl, K2, fun j hj => absurd hj (by omega)⟩
      case round =>
        obtain ⟨m, hm, rfl, HB, hs2⟩ := hrel
        by_cases hlt2 : m < 8
        · obtain ⟨x, hx, hpx, hnx⟩ := FL.out.at_ hlt2
          obtain ⟨y, hy, hpy, hny⟩ := FM.out.at_ hlt2
          have hlt' : (m : Int) < 8 := by omega
          have HX := hide hx
          have HYY := hide hy
          have PX := hide (hpx.below HB.out)
          have PY := hide (hpy.below HB.out)
          have R2 := hide (R01.out.below HB.out R01.out.lt)
          have R3 := hide (R1.out.below HB.out R1.out.lt)
          clear hx hy hpx hpy x4 y4
          have HRE := hide (show ∀ wz : World, Below wr.heap.size wr wz → Calls Try.prog 13 #[.agg #[.int .i64 x.o.r.why, .bool x.o.r.fnd, .string x.o.r.val, .int .i64 x.o.r.ver, .slice x.A x.o.r.l.length x.c], .agg #[.int .i64 y.o.r.why, .bool y.o.r.fnd, .string y.o.r.val, .int .i64 y.o.r.ver, .slice y.A y.o.r.l.length y.c]] wz fun e w' => e = .returned (.bool (decide (x.o.r = y.o.r))) ∧ Below wz.heap.size wz w' from fun wz hz => replies_any x.o.r y.o.r x.p y.p wz (PX.out.below hz) (PY.out.below hz) (by omega) (by omega))
          by_cases e1 : x.o.s = y.o.s
          case neg =>
            have hs1 : (x.o.s != y.o.s) = true := by simpa using e1
            have HE := hide (HUO.out (fun e => e1 (by
              have h1 := ows_at HX.out
              rw [HSO.out, e, ← HTO.out, ows_at HYY.out] at h1
              rw [Option.some.inj h1])))
            clear e1
            go_upto_region 11 with (fail)
            have HB0 : Below wr.heap.size wr wr := kept_refl wr
            refine wp_region_sp (fun w' => Below wr.heap.size wr w') (by kernel_rfl) (by kernel_rfl) (show Below wr.heap.size wr wr.drew from kept_drewN HB0 1) ?_
            generalize hS : (fun w' => Below wr.heap.size wr w') = S
            have l0 : ∀ z : Sp S, z.w.cell? ⟨w.heap.size, 1 + m * 6, none⟩ = some (.int .i64 x.o.s) := by subst hS; exact fun z => ((R2.out.below z.ok R2.out.lt).owner49 HX.out).1
            have l1 : ∀ z : Sp S, z.w.cell? ⟨w.heap.size, 1 + m * 6 + 1, none⟩ = some (.int .i64 x.o.r.why) := by subst hS; exact fun z => ((R2.out.below z.ok R2.out.lt).owner49 HX.out).2.1
            have l2 : ∀ z : Sp S, z.w.cell? ⟨w.heap.size, 1 + m * 6 + 2, none⟩ = some (.bool x.o.r.fnd) := by subst hS; exact fun z => ((R2.out.below z.ok R2.out.lt).owner49 HX.out).2.2.1
            have l3 : ∀ z : Sp S, z.w.cell? ⟨w.heap.size, 1 + m * 6 + 3, none⟩ = some (.string x.o.r.val) := by subst hS; exact fun z => ((R2.out.below z.ok R2.out.lt).owner49 HX.out).2.2.2.1
            have l4 : ∀ z : Sp S, z.w.cell? ⟨w.heap.size, 1 + m * 6 + 4, none⟩ = some (.int .i64 x.o.r.ver) := by subst hS; exact fun z => ((R2.out.below z.ok R2.out.lt).owner49 HX.out).2.2.2.2.1
            have l5 : ∀ z : Sp S, z.w.cell? ⟨w.heap.size, 1 + m * 6 + 5, none⟩ = some (Value.slice x.A x.o.r.l.length x.c) := by subst hS; exact fun z => ((R2.out.below z.ok R2.out.lt).owner49 HX.out).2.2.2.2.2
            have l6 : ∀ z : Sp S, z.w.cell? ⟨w.heap.size + 1, 1 + m * 6, none⟩ = some (.int .i64 y.o.s) := by subst hS; exact fun z => ((R3.out.below z.ok R3.out.lt).owner49 HYY.out).1
            have l7 : ∀ z : Sp S, z.w.cell? ⟨w.heap.size + 1, 1 + m * 6 + 1, none⟩ = some (.int .i64 y.o.r.why) := by subst hS; exact fun z => ((R3.out.below z.ok R3.out.lt).owner49 HYY.out).2.1
            have l8 : ∀ z : Sp S, z.w.cell? ⟨w.heap.size + 1, 1 + m * 6 + 2, none⟩ = some (.bool y.o.r.fnd) := by subst hS; exact fun z => ((R3.out.below z.ok R3.out.lt).owner49 HYY.out).2.2.1
            have l9 : ∀ z : Sp S, z.w.cell? ⟨w.heap.size + 1, 1 + m * 6 + 3, none⟩ = some (.string y.o.r.val) := by subst hS; exact fun z => ((R3.out.below z.ok R3.out.lt).owner49 HYY.out).2.2.2.1
            have l10 : ∀ z : Sp S, z.w.cell? ⟨w.heap.size + 1, 1 + m * 6 + 4, none⟩ = some (.int .i64 y.o.r.ver) := by subst hS; exact fun z => ((R3.out.below z.ok R3.out.lt).owner49 HYY.out).2.2.2.2.1
            have l11 : ∀ z : Sp S, z.w.cell? ⟨w.heap.size + 1, 1 + m * 6 + 5, none⟩ = some (Value.slice y.A y.o.r.l.length y.c) := by subst hS; exact fun z => ((R3.out.below z.ok R3.out.lt).owner49 HYY.out).2.2.2.2.2
            have ne : Nonempty (Sp S) := by subst hS; exact ⟨⟨_, HB0⟩⟩
            have STEP := hide (show ∀ w w', S w → Below w.heap.size w w' → S w' by subst hS; exact fun _ _ h hb => kept_trans h hb)
            have OLD := hide (show ∀ z : Sp S, Below wr.heap.size wr z.w by subst hS; exact fun z => z.ok)
            clear HB0 hS
            repeat (go_big_quiet_step (fail))
            refine wpQuiet_nil ?_
            intro kk
            have OK := hide (OLD.out kk)
            generalize kk.w = wk at OK ⊢
            clear l0 l1 l2 l3 l4 l5 l6 l7 l8 l9 l10 l11 ne OLD STEP
            go_wp2
            go_ret
            exact ⟨by rw [HE.out]; rfl, K1.out.trans ((kept_trans HB.out OK.out).mono GLE.out)⟩
          have hs1 : (x.o.s != y.o.s) = false := by simpa using e1
          by_cases e2 : x.o.r = y.o.r
          case neg =>
            rw [decide_eq_false e2] at HRE
            have HE := hide (HUO.out (fun e => e2 (by
              have h1 := ows_at HX.out
              rw [HSO.out, e, ← HTO.out, ows_at HYY.out] at h1
              rw [Option.some.inj h1])))
            clear e1 e2
            go_upto_region 11 with (fail)
            have HB0 : Below wr.heap.size wr wr := kept_refl wr
            refine wp_region_sp (fun w' => Below wr.heap.size wr w') (by kernel_rfl) (by kernel_rfl) (show Below wr.heap.size wr wr.drew from kept_drewN HB0 1) ?_
            generalize hS : (fun w' => Below wr.heap.size wr w') = S
            have l0 : ∀ z : Sp S, z.w.cell? ⟨w.heap.size, 1 + m * 6, none⟩ = some (.int .i64 x.o.s) := by subst hS; exact fun z => ((R2.out.below z.ok R2.out.lt).owner49 HX.out).1
            have l1 : ∀ z : Sp S, z.w.cell? ⟨w.heap.size, 1 + m * 6 + 1, none⟩ = some (.int .i64 x.o.r.why) := by subst hS; exact fun z => ((R2.out.below z.ok R2.out.lt).owner49 HX.out).2.1
            have l2 : ∀ z : Sp S, z.w.cell? ⟨w.heap.size, 1 + m * 6 + 2, none⟩ = some (.bool x.o.r.fnd) := by subst hS; exact fun z => ((R2.out.below z.ok R2.out.lt).owner49 HX.out).2.2.1
            have l3 : ∀ z : Sp S, z.w.cell? ⟨w.heap.size, 1 + m * 6 + 3, none⟩ = some (.string x.o.r.val) := by subst hS; exact fun z => ((R2.out.below z.ok R2.out.lt).owner49 HX.out).2.2.2.1
            have l4 : ∀ z : Sp S, z.w.cell? ⟨w.heap.size, 1 + m * 6 + 4, none⟩ = some (.int .i64 x.o.r.ver) := by subst hS; exact fun z => ((R2.out.below z.ok R2.out.lt).owner49 HX.out).2.2.2.2.1
            have l5 : ∀ z : Sp S, z.w.cell? ⟨w.heap.size, 1 + m * 6 + 5, none⟩ = some (Value.slice x.A x.o.r.l.length x.c) := by subst hS; exact fun z => ((R2.out.below z.ok R2.out.lt).owner49 HX.out).2.2.2.2.2
            have l6 : ∀ z : Sp S, z.w.cell? ⟨w.heap.size + 1, 1 + m * 6, none⟩ = some (.int .i64 y.o.s) := by subst hS; exact fun z => ((R3.out.below z.ok R3.out.lt).owner49 HYY.out).1
            have l7 : ∀ z : Sp S, z.w.cell? ⟨w.heap.size + 1, 1 + m * 6 + 1, none⟩ = some (.int .i64 y.o.r.why) := by subst hS; exact fun z => ((R3.out.below z.ok R3.out.lt).owner49 HYY.out).2.1
            have l8 : ∀ z : Sp S, z.w.cell? ⟨w.heap.size + 1, 1 + m * 6 + 2, none⟩ = some (.bool y.o.r.fnd) := by subst hS; exact fun z => ((R3.out.below z.ok R3.out.lt).owner49 HYY.out).2.2.1
            have l9 : ∀ z : Sp S, z.w.cell? ⟨w.heap.size + 1, 1 + m * 6 + 3, none⟩ = some (.string y.o.r.val) := by subst hS; exact fun z => ((R3.out.below z.ok R3.out.lt).owner49 HYY.out).2.2.2.1
            have l10 : ∀ z : Sp S, z.w.cell? ⟨w.heap.size + 1, 1 + m * 6 + 4, none⟩ = some (.int .i64 y.o.r.ver) := by subst hS; exact fun z => ((R3.out.below z.ok R3.out.lt).owner49 HYY.out).2.2.2.2.1
            have l11 : ∀ z : Sp S, z.w.cell? ⟨w.heap.size + 1, 1 + m * 6 + 5, none⟩ = some (Value.slice y.A y.o.r.l.length y.c) := by subst hS; exact fun z => ((R3.out.below z.ok R3.out.lt).owner49 HYY.out).2.2.2.2.2
            have ne : Nonempty (Sp S) := by subst hS; exact ⟨⟨_, HB0⟩⟩
            have STEP := hide (show ∀ w w', S w → Below w.heap.size w w' → S w' by subst hS; exact fun _ _ h hb => kept_trans h hb)
            have OLD := hide (show ∀ z : Sp S, Below wr.heap.size wr z.w by subst hS; exact fun z => z.ok)
            clear HB0 hS
            repeat (go_big_quiet_step ((first | (go_at_call 13; with_reducible exact sp_call STEP.out _ (HRE.out _ (OLD.out _))))))
            refine wpQuiet_nil ?_
            intro kk
            have OK := hide (OLD.out kk)
            generalize kk.w = wk at OK ⊢
            clear l0 l1 l2 l3 l4 l5 l6 l7 l8 l9 l10 l11 ne OLD STEP
            go_wp2
            go_ret
            exact ⟨by rw [HE.out]; rfl, K1.out.trans ((kept_trans HB.out OK.out).mono GLE.out)⟩
          rw [decide_eq_true e2] at HRE
          have HE := hide (show x.o = y.o from by
            obtain ⟨⟨_, _⟩, _, _⟩ := x
            obtain ⟨⟨_, _⟩, _, _⟩ := y
            dsimp only at e1 e2
            rw [e1, e2])
          clear e1 e2
          go_upto_region 11 with (fail)
          have HB0 : Below wr.heap.size wr wr := kept_refl wr
          refine wp_region_sp (fun w' => Below wr.heap.size wr w') (by kernel_rfl) (by kernel_rfl) (show Below wr.heap.size wr wr.drew from kept_drewN HB0 1) ?_
          generalize hS : (fun w' => Below wr.heap.size wr w') = S
          have l0 : ∀ z : Sp S, z.w.cell? ⟨w.heap.size, 1 + m * 6, none⟩ = some (.int .i64 x.o.s) := by subst hS; exact fun z => ((R2.out.below z.ok R2.out.lt).owner49 HX.out).1
          have l1 : ∀ z : Sp S, z.w.cell? ⟨w.heap.size, 1 + m * 6 + 1, none⟩ = some (.int .i64 x.o.r.why) := by subst hS; exact fun z => ((R2.out.below z.ok R2.out.lt).owner49 HX.out).2.1
          have l2 : ∀ z : Sp S, z.w.cell? ⟨w.heap.size, 1 + m * 6 + 2, none⟩ = some (.bool x.o.r.fnd) := by subst hS; exact fun z => ((R2.out.below z.ok R2.out.lt).owner49 HX.out).2.2.1
          have l3 : ∀ z : Sp S, z.w.cell? ⟨w.heap.size, 1 + m * 6 + 3, none⟩ = some (.string x.o.r.val) := by subst hS; exact fun z => ((R2.out.below z.ok R2.out.lt).owner49 HX.out).2.2.2.1
          have l4 : ∀ z : Sp S, z.w.cell? ⟨w.heap.size, 1 + m * 6 + 4, none⟩ = some (.int .i64 x.o.r.ver) := by subst hS; exact fun z => ((R2.out.below z.ok R2.out.lt).owner49 HX.out).2.2.2.2.1
          have l5 : ∀ z : Sp S, z.w.cell? ⟨w.heap.size, 1 + m * 6 + 5, none⟩ = some (Value.slice x.A x.o.r.l.length x.c) := by subst hS; exact fun z => ((R2.out.below z.ok R2.out.lt).owner49 HX.out).2.2.2.2.2
          have l6 : ∀ z : Sp S, z.w.cell? ⟨w.heap.size + 1, 1 + m * 6, none⟩ = some (.int .i64 y.o.s) := by subst hS; exact fun z => ((R3.out.below z.ok R3.out.lt).owner49 HYY.out).1
          have l7 : ∀ z : Sp S, z.w.cell? ⟨w.heap.size + 1, 1 + m * 6 + 1, none⟩ = some (.int .i64 y.o.r.why) := by subst hS; exact fun z => ((R3.out.below z.ok R3.out.lt).owner49 HYY.out).2.1
          have l8 : ∀ z : Sp S, z.w.cell? ⟨w.heap.size + 1, 1 + m * 6 + 2, none⟩ = some (.bool y.o.r.fnd) := by subst hS; exact fun z => ((R3.out.below z.ok R3.out.lt).owner49 HYY.out).2.2.1
          have l9 : ∀ z : Sp S, z.w.cell? ⟨w.heap.size + 1, 1 + m * 6 + 3, none⟩ = some (.string y.o.r.val) := by subst hS; exact fun z => ((R3.out.below z.ok R3.out.lt).owner49 HYY.out).2.2.2.1
          have l10 : ∀ z : Sp S, z.w.cell? ⟨w.heap.size + 1, 1 + m * 6 + 4, none⟩ = some (.int .i64 y.o.r.ver) := by subst hS; exact fun z => ((R3.out.below z.ok R3.out.lt).owner49 HYY.out).2.2.2.2.1
          have l11 : ∀ z : Sp S, z.w.cell? ⟨w.heap.size + 1, 1 + m * 6 + 5, none⟩ = some (Value.slice y.A y.o.r.l.length y.c) := by subst hS; exact fun z => ((R3.out.below z.ok R3.out.lt).owner49 HYY.out).2.2.2.2.2
          have ne : Nonempty (Sp S) := by subst hS; exact ⟨⟨_, HB0⟩⟩
          have STEP := hide (show ∀ w w', S w → Below w.heap.size w w' → S w' by subst hS; exact fun _ _ h hb => kept_trans h hb)
          have OLD := hide (show ∀ z : Sp S, Below wr.heap.size wr z.w by subst hS; exact fun z => z.ok)
          clear HB0 hS
          repeat (go_big_quiet_step ((first | (go_at_call 13; with_reducible exact sp_call STEP.out _ (HRE.out _ (OLD.out _))))))
          refine wpQuiet_nil ?_
          intro kk
          have OK := hide (OLD.out kk)
          generalize kk.w = wk at OK ⊢
          clear l0 l1 l2 l3 l4 l5 l6 l7 l8 l9 l10 l11 ne OLD STEP
          generalize wk = wn at OK ⊢
          go_wp2
          go_roundw
          case rel => exact ⟨m + 1, by omega, by go_num, hide (kept_trans HB.out OK.out), hide (fun j hj => by
            rcases Nat.lt_or_ge j m with h1 | h1
            · exact hs2.out j h1
            · obtain rfl : j = m := by omega
              rw [ows_at HX.out, ows_at HYY.out, HE.out])⟩
          case measure => simp [intOf]; omega
        · obtain rfl : m = 8 := by omega
          have HOO : Hid (ows L = ows M) := hide (by
            apply List.ext_getElem?
            intro j
            rcases Nat.lt_or_ge j 8 with h1 | h1
            · exact hs2.out j h1
            · rw [List.getElem?_eq_none (by rw [ows_len, FL.out.1]; exact h1), List.getElem?_eq_none (by rw [ows_len, FM.out.1]; exact h1)])
          have HE := hide (HUE.out HLL.out (by rw [← HSO.out, ← HTO.out]; exact HOO.out))
          go_wp2
          go_ret
          exact ⟨by rw [HE.out]; rfl, K1.out.trans (HB.out.mono GLE.out)⟩
end Go.Proofs.Ytahfpncfkcfogaa
