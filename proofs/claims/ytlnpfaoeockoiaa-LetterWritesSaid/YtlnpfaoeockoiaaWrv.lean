/- The document's RightLetter. Conditions: the lists are as long as they are. -/
import Derived.Test.YtlnpfaoeockoiaaWd
import Derived.Test.YtlnpfaoeockoiaaWa
namespace Go.Proofs.Ytlnpfaoeockoiaa
set_option maxRecDepth 100000
open Go.RowKit
theorem rrightI_any (r s : Int) (w : World) : Calls Try.prog 55 #[.agg #[.int .i64 r, .int .i64 s]] w fun e w' => e = .returned (.bool (rightI r s)) ∧ Below w.heap.size w w' := by
  go_enter Try.func55, Try.ntmps55
  go_wp2
  all_goals (go_ret; exact ⟨ret_bool (by unfold rightI repB; first | (simp [*]; done) | (simp [*] <;> omega)), (Below.refl _ _).alloc (Nat.le_refl _) _⟩)
theorem rright_cm (c : Cm) (w : World) : Calls Try.prog 39 #[.agg #[.int .i64 c.k, .int .i64 c.c, .int .i64 c.q, .string c.key, .string c.en, .string c.old, .string c.val]] w fun e w' => e = .returned (.bool (rightC c)) ∧ Below w.heap.size w w' := rright_to c.k c.c c.q c.key c.en c.old c.val w
theorem rright_de {d : List Int} (h : d.length = 7) (w : World) : Calls Try.prog 56 #[.agg (cA d)] w fun e w' => e = .returned (.bool (rightD d)) ∧ Below w.heap.size w w' := by
  obtain ⟨d0, d1, d2, d3, d4, d5, d6, rfl⟩ := len_seven h
  exact rightD_any d0 d1 d2 d3 d4 d5 d6 w
theorem wpList_store_lz {ops : Array Oper} {rest : List Oper} {d : Option Tmp} {ty : TypeId} {ps : String} {af : Array Edge} {x u : Operand} {a : Act} {w : World} {Q : Exit → Act → World → Prop} {b : Nat} {t : TypeId} {m : Lt} {z : ByteArray}
    (hx : a.eval x = .pointer (some ⟨b, 50, none⟩)) (hy : a.eval u = .string z) (L : LAt w b t m) (h : ∀ w', LAt w' b t { m with z := z } → w.grownBy w' (some b) → wpList Try.prog ops Q rest (a.put d undef) w') :
    wpList Try.prog ops Q ({ dst := d, op := .store 9 x u, type := ty, pos := ps, after := af, guard := none } :: rest) a w :=
  wpList_plain rfl fun K hK => by
    have hz := L.z
    have hf := L.r.free 50
    have hp := L.put (m' := { m with z := z }) (A := m.hd ++ (m.c.l ++ (cellsR m.a ++ (m.x.l ++ cellsR m.d)))) (ys := [.string m.z]) (vs := [.string z]) (B := []) (o := 50) (by unfold Lt.l Lt.hd; simp) (by unfold Lt.l Lt.hd; simp) (by
      have h3 : m.c.l.length = 7 := rfl
      have h4 : m.hd.length = 7 := rfl
      have h5 := Cl.len L.wf.x
      simp only [List.length_append, length_cellsR, L.wf.a, L.wf.d, h3, h4, h5]) rfl ⟨L.wf.a, L.wf.x, L.wf.d⟩
    have hg := grown_setCells b [.string z] 50 w
    have h2 := hK _ _ (h _ hp hg)
    unfold Oper.wp execOp
    simp only [hx, hy]
    go_simp
    exact h2
theorem exec_load_g {P : Program} {a : Act} {w : World} {o : Oper} {t : TypeId} {x : Operand} {b off : Nat} {cs : List Value} {D : TypeDesc} (ho : o.op = .load t x) (hx : a.eval x = .pointer (some ⟨b, off, none⟩)) (R : w.rangeAt b off cs)
    (hu : P.underlying t = some D) (hd : D.isRow = true) (hi : (P.info? t).map (·.size) = some cs.length) : (execOp a.eval o).run P w = .ok (.value (.agg cs.toArray)) w := by
  unfold execOp
  simp only [ho, hx, Instr.loadAt, Instr.sureAddr, Sem.run_bind, Sem.run_pure, Result.andThen_ok, run_loadVar_mid w b off t cs D R hu hd hi]
/-- Kind, from and to may be. -/
def Hd (m : Lt) : Prop := (1 ≤ m.k ∧ m.k ≤ 11) ∧ (0 ≤ m.f ∧ m.f < 7) ∧ (0 ≤ m.t ∧ m.t < 7) ∧ ¬ m.f = m.t
theorem rightLt_bad {m : Lt} (h : ¬ Hd m) : rightLt m = false := by
  cases hr : rightLt m
  · rfl
  · have o := rightLt_says hr
    unfold rightLt at hr
    simp only [Bool.and_eq_true, Bool.not_eq_true', beq_eq_false_iff_ne] at hr
    exact absurd ⟨o.k, o.f, o.t, hr.2.2.2.1⟩ h
theorem below_then {a b c : World} {g : Nat} (h : Below a.heap.size a b) (hg : b.grownBy c (some g)) (hl : a.heap.size ≤ g) : Below a.heap.size a c := by
  obtain ⟨e1, e2, e3, e4, e5⟩ := hg
  have := h.size
  exact h.trans ⟨e1, e2, e3, e4, fun k hk => e5 k (by omega) (fun e => by injection e; omega)⟩
theorem rightLt_tail {m : Lt} (h : Hd m) (hi : nmI m.k = true → (rightI m.i.1 m.i.2 && rightB m.b.1 m.b.2) = true) :
    rightLt m = (sameLt m (bareL m) && (rightC m.c && (rightAl m.a && (rightCl m.x && (rightD m.d && decide (m.z.size ≤ 16384)))))) := by
  obtain ⟨h1, h2, h3, h4⟩ := h
  have e : (!nmI m.k || (rightI m.i.1 m.i.2 && rightB m.b.1 m.b.2)) = true := by
    cases hn : nmI m.k
    · rfl
    · rw [hi hn]; rfl
  unfold rightLt repB
  rw [e]
  simp [h1, h2, h3, h4]
theorem rightLt_inst {m : Lt} (hn : nmI m.k = true) (h : (rightI m.i.1 m.i.2 && rightB m.b.1 m.b.2) = false) : rightLt m = false := by
  unfold rightLt
  rw [hn, h]
  simp
/-- Behind Kind, from and to: the letter's block, the bare one's block. -/
structure Bt (w w' : World) (m n : Lt) (g : Nat) : Prop where
  m : LAt w' w.heap.size 37 m
  n : LAt w' g 37 n
  lt : w.heap.size < g
  old : Below w.heap.size w w'
theorem Bt.put {w w' w2 : World} {m n n' : Lt} {g : Nat} (h : Bt w w' m n g) (hn : LAt w2 g 37 n') (hg : w'.grownBy w2 (some g)) : Bt w w2 m n' g :=
  ⟨h.m.other hg (by have := h.lt; omega), hn, h.lt, below_then h.old hg (by have := h.lt; omega)⟩
theorem Bt.kept {w w' w2 : World} {m n : Lt} {g : Nat} (h : Bt w w' m n g) (hb : Below w'.heap.size w' w2) : Bt w w2 m n g := ⟨h.m.kept hb, h.n.kept hb, h.lt, kept_trans h.old hb⟩
set_option maxHeartbeats 8000000 in
theorem rrightletter_any (m : Lt) (wf : LtWf m) (w : World) : Calls Try.prog 17 #[.agg (ltC m)] w fun y w' => y = .returned (.bool (rightLt m)) ∧ Below w.heap.size w w' := by
  have L0 := hide (LAt.new wf w 37)
  have HB := hide ((Below.refl w.heap.size w).alloc (Nat.le_refl _) (.cells (ltC m) 37))
  by_cases hC : Hd m
  · have HC := hide hC
    obtain ⟨⟨k1, k11⟩, ⟨f0, f7⟩, ⟨t0, t7⟩, ft⟩ := hC
    have n1 : ¬ m.k < 1 := by omega
    have n2 : ¬ 11 < m.k := by omega
    have n3 : ¬ m.f < 0 := by omega
    have n4 : ¬ 7 ≤ m.f := by omega
    have n5 : ¬ m.t < 0 := by omega
    have n6 : ¬ 7 ≤ m.t := by omega
    have HK := hide (And.intro k1 k11)
    clear k1 k11 f0 f7 t0 t7
    go_enter Try.func17, Try.ntmps17
    go_upto_region 1 with (fail)
    generalize w.alloc (.cells (ltC m) 37) = w1 at L0 HB ⊢
    have c0 := L0.out.k1
    have c1 := L0.out.f1
    have c2 := L0.out.t1
    go_upto_region 3 with (fail)
    go_upto_region 4 with (first
      | ((with_reducible refine wpList_build_bare (k := m.k) (f := m.f) (t := m.t) ?_ ?_ ?_ ?_); rfl; rfl; rfl)
      | ((with_reducible refine wpList_store_bare (y := bare0 m.k m.f m.t) ?_ ?_ ?_ ?_ ?_); rfl; rfl; exact ⟨rfl, rfl, rfl⟩; rfl))
    try simp only [Act.put]
    have BT := hide (show Bt w (w1.alloc (.cells (ltC (bare0 m.k m.f m.t)) 37)) m (bare0 m.k m.f m.t) w1.heap.size from ⟨L0.out.kept ((Below.refl _ _).alloc (Nat.le_refl _) _), LAt.new ⟨rfl, rfl, rfl⟩ w1 _, L0.out.r.lt, HB.out.alloc HB.out.size _⟩)
    clear c0 c1 c2 n1 n2 n3 n4 n5 n6 ft L0
    generalize w1.alloc (.cells (ltC (bare0 m.k m.f m.t)) 37) = w2 at BT ⊢
    generalize w1.heap.size = g at BT ⊢
    clear HB
    have hi1 := fun w => rrightI_any m.i.1 m.i.2 w
    have hi2 := fun w => rrightballot_any m.b.1 m.b.2 w
    have hi3 := fun w => rright_cm m.c w
    have hi4 := fun w => rright_al wf.a w
    have hi5 := fun w => rrightcell_any m.x wf.x w
    have hi6 := fun w => rright_de wf.d w
    obtain hk | hk | hk | hk | hk | hk | hk | hk | hk | hk | hk : m.k = 1 ∨ m.k = 2 ∨ m.k = 3 ∨ m.k = 4 ∨ m.k = 5 ∨ m.k = 6 ∨ m.k = 7 ∨ m.k = 8 ∨ m.k = 9 ∨ m.k = 10 ∨ m.k = 11 := by have := HK.out; omega
    · have c0 : w2.cell? ⟨w.heap.size, 0, none⟩ = some (.int .i64 1) := BT.out.m.k1.trans (by rw [hk])
      cases qi : rightI m.i.1 m.i.2
      · simp only [qi] at hi1
        go_upto_region 24 with (first
        | ((with_reducible refine wpList_load_in ?_ ?_ BT.out.m.i ?_); rfl; rfl)
        | ((with_reducible refine wpList_load_bal ?_ ?_ BT.out.m.b1 ?_); rfl; rfl)
        | ((with_reducible refine wpList_load_cm ?_ ?_ BT.out.m.c ?_); rfl; rfl)
        | ((with_reducible refine wpList_load_at wf.a ?_ ?_ BT.out.m.a ?_); rfl; rfl)
        | ((with_reducible refine wpList_load_ce wf.x ?_ ?_ BT.out.m.x ?_); rfl; rfl)
        | ((with_reducible refine wpList_load_de wf.d ?_ ?_ BT.out.m.d ?_); rfl; rfl)
        | ((with_reducible refine wpList_store_li (p := m.i.1) (q := m.i.2) ?_ ?_ BT.out.n ?_); rfl; rfl; intro w3 hn hg; have BT := hide (BT.out.put hn hg); have c0 : w3.cell? ⟨w.heap.size, 0, none⟩ = some (.int .i64 1) := BT.out.m.k1.trans (by rw [hk]); clear hn hg)
        | ((with_reducible refine wpList_store_lb (p := m.b.1) (q := m.b.2) ?_ ?_ BT.out.n ?_); rfl; rfl; intro w3 hn hg; have BT := hide (BT.out.put hn hg); have c0 : w3.cell? ⟨w.heap.size, 0, none⟩ = some (.int .i64 1) := BT.out.m.k1.trans (by rw [hk]); clear hn hg)
        | ((with_reducible refine wpList_store_la (y := m.a) wf.a ?_ ?_ BT.out.n ?_); rfl; rfl; intro w3 hn hg; have BT := hide (BT.out.put hn hg); have c0 : w3.cell? ⟨w.heap.size, 0, none⟩ = some (.int .i64 1) := BT.out.m.k1.trans (by rw [hk]); clear hn hg)
        | ((with_reducible refine wpList_store_lx (y := m.x) wf.x ?_ ?_ BT.out.n ?_); rfl; rfl; intro w3 hn hg; have BT := hide (BT.out.put hn hg); have c0 : w3.cell? ⟨w.heap.size, 0, none⟩ = some (.int .i64 1) := BT.out.m.k1.trans (by rw [hk]); clear hn hg)
        | ((with_reducible refine wpList_store_lz (z := m.z) ?_ ?_ BT.out.n ?_); rfl; rfl; intro w3 hn hg; have BT := hide (BT.out.put hn hg); have c0 : w3.cell? ⟨w.heap.size, 0, none⟩ = some (.int .i64 1) := BT.out.m.k1.trans (by rw [hk]); clear hn hg)
        | ((with_reducible refine wpList_store_ld (y := m.d) wf.d ?_ ?_ BT.out.n ?_); rfl; rfl; intro w3 hn hg; have BT := hide (BT.out.put hn hg); have c0 : w3.cell? ⟨w.heap.size, 0, none⟩ = some (.int .i64 1) := BT.out.m.k1.trans (by rw [hk]); clear hn hg)
        | (go_at_call 55; (with_reducible refine (hi1 _).mono ?_); rintro e w3 ⟨rfl, hb⟩; have BT := hide (BT.out.kept hb); have c0 : w3.cell? ⟨w.heap.size, 0, none⟩ = some (.int .i64 1) := BT.out.m.k1.trans (by rw [hk]); have c50 := BT.out.m.z; clear hb)
        | (go_at_call 38; (with_reducible refine (hi2 _).mono ?_); rintro e w3 ⟨rfl, hb⟩; have BT := hide (BT.out.kept hb); have c0 : w3.cell? ⟨w.heap.size, 0, none⟩ = some (.int .i64 1) := BT.out.m.k1.trans (by rw [hk]); have c50 := BT.out.m.z; clear hb)
        | (go_at_call 39; (with_reducible refine (hi3 _).mono ?_); rintro e w3 ⟨rfl, hb⟩; have BT := hide (BT.out.kept hb); have c0 : w3.cell? ⟨w.heap.size, 0, none⟩ = some (.int .i64 1) := BT.out.m.k1.trans (by rw [hk]); have c50 := BT.out.m.z; clear hb)
        | (go_at_call 40; (with_reducible refine (hi4 _).mono ?_); rintro e w3 ⟨rfl, hb⟩; have BT := hide (BT.out.kept hb); have c0 : w3.cell? ⟨w.heap.size, 0, none⟩ = some (.int .i64 1) := BT.out.m.k1.trans (by rw [hk]); have c50 := BT.out.m.z; clear hb)
        | (go_at_call 13; (with_reducible refine (hi5 _).mono ?_); rintro e w3 ⟨rfl, hb⟩; have BT := hide (BT.out.kept hb); have c0 : w3.cell? ⟨w.heap.size, 0, none⟩ = some (.int .i64 1) := BT.out.m.k1.trans (by rw [hk]); have c50 := BT.out.m.z; clear hb)
        | (go_at_call 56; (with_reducible refine (hi6 _).mono ?_); rintro e w3 ⟨rfl, hb⟩; have BT := hide (BT.out.kept hb); have c0 : w3.cell? ⟨w.heap.size, 0, none⟩ = some (.int .i64 1) := BT.out.m.k1.trans (by rw [hk]); have c50 := BT.out.m.z; clear hb))
        all_goals (go_ret; exact ⟨ret_bool (by rw [rightLt_inst (by simp [nmI, hk]) (by rw [qi]; rfl)]), BT.out.old⟩)
      · simp only [qi] at hi1
        cases qb : rightB m.b.1 m.b.2
        · simp only [qb] at hi2
          go_upto_region 24 with (first
        | ((with_reducible refine wpList_load_in ?_ ?_ BT.out.m.i ?_); rfl; rfl)
        | ((with_reducible refine wpList_load_bal ?_ ?_ BT.out.m.b1 ?_); rfl; rfl)
        | ((with_reducible refine wpList_load_cm ?_ ?_ BT.out.m.c ?_); rfl; rfl)
        | ((with_reducible refine wpList_load_at wf.a ?_ ?_ BT.out.m.a ?_); rfl; rfl)
        | ((with_reducible refine wpList_load_ce wf.x ?_ ?_ BT.out.m.x ?_); rfl; rfl)
        | ((with_reducible refine wpList_load_de wf.d ?_ ?_ BT.out.m.d ?_); rfl; rfl)
        | ((with_reducible refine wpList_store_li (p := m.i.1) (q := m.i.2) ?_ ?_ BT.out.n ?_); rfl; rfl; intro w3 hn hg; have BT := hide (BT.out.put hn hg); have c0 : w3.cell? ⟨w.heap.size, 0, none⟩ = some (.int .i64 1) := BT.out.m.k1.trans (by rw [hk]); clear hn hg)
        | ((with_reducible refine wpList_store_lb (p := m.b.1) (q := m.b.2) ?_ ?_ BT.out.n ?_); rfl; rfl; intro w3 hn hg; have BT := hide (BT.out.put hn hg); have c0 : w3.cell? ⟨w.heap.size, 0, none⟩ = some (.int .i64 1) := BT.out.m.k1.trans (by rw [hk]); clear hn hg)
        | ((with_reducible refine wpList_store_la (y := m.a) wf.a ?_ ?_ BT.out.n ?_); rfl; rfl; intro w3 hn hg; have BT := hide (BT.out.put hn hg); have c0 : w3.cell? ⟨w.heap.size, 0, none⟩ = some (.int .i64 1) := BT.out.m.k1.trans (by rw [hk]); clear hn hg)
        | ((with_reducible refine wpList_store_lx (y := m.x) wf.x ?_ ?_ BT.out.n ?_); rfl; rfl; intro w3 hn hg; have BT := hide (BT.out.put hn hg); have c0 : w3.cell? ⟨w.heap.size, 0, none⟩ = some (.int .i64 1) := BT.out.m.k1.trans (by rw [hk]); clear hn hg)
        | ((with_reducible refine wpList_store_lz (z := m.z) ?_ ?_ BT.out.n ?_); rfl; rfl; intro w3 hn hg; have BT := hide (BT.out.put hn hg); have c0 : w3.cell? ⟨w.heap.size, 0, none⟩ = some (.int .i64 1) := BT.out.m.k1.trans (by rw [hk]); clear hn hg)
        | ((with_reducible refine wpList_store_ld (y := m.d) wf.d ?_ ?_ BT.out.n ?_); rfl; rfl; intro w3 hn hg; have BT := hide (BT.out.put hn hg); have c0 : w3.cell? ⟨w.heap.size, 0, none⟩ = some (.int .i64 1) := BT.out.m.k1.trans (by rw [hk]); clear hn hg)
        | (go_at_call 55; (with_reducible refine (hi1 _).mono ?_); rintro e w3 ⟨rfl, hb⟩; have BT := hide (BT.out.kept hb); have c0 : w3.cell? ⟨w.heap.size, 0, none⟩ = some (.int .i64 1) := BT.out.m.k1.trans (by rw [hk]); have c50 := BT.out.m.z; clear hb)
        | (go_at_call 38; (with_reducible refine (hi2 _).mono ?_); rintro e w3 ⟨rfl, hb⟩; have BT := hide (BT.out.kept hb); have c0 : w3.cell? ⟨w.heap.size, 0, none⟩ = some (.int .i64 1) := BT.out.m.k1.trans (by rw [hk]); have c50 := BT.out.m.z; clear hb)
        | (go_at_call 39; (with_reducible refine (hi3 _).mono ?_); rintro e w3 ⟨rfl, hb⟩; have BT := hide (BT.out.kept hb); have c0 : w3.cell? ⟨w.heap.size, 0, none⟩ = some (.int .i64 1) := BT.out.m.k1.trans (by rw [hk]); have c50 := BT.out.m.z; clear hb)
        | (go_at_call 40; (with_reducible refine (hi4 _).mono ?_); rintro e w3 ⟨rfl, hb⟩; have BT := hide (BT.out.kept hb); have c0 : w3.cell? ⟨w.heap.size, 0, none⟩ = some (.int .i64 1) := BT.out.m.k1.trans (by rw [hk]); have c50 := BT.out.m.z; clear hb)
        | (go_at_call 13; (with_reducible refine (hi5 _).mono ?_); rintro e w3 ⟨rfl, hb⟩; have BT := hide (BT.out.kept hb); have c0 : w3.cell? ⟨w.heap.size, 0, none⟩ = some (.int .i64 1) := BT.out.m.k1.trans (by rw [hk]); have c50 := BT.out.m.z; clear hb)
        | (go_at_call 56; (with_reducible refine (hi6 _).mono ?_); rintro e w3 ⟨rfl, hb⟩; have BT := hide (BT.out.kept hb); have c0 : w3.cell? ⟨w.heap.size, 0, none⟩ = some (.int .i64 1) := BT.out.m.k1.trans (by rw [hk]); have c50 := BT.out.m.z; clear hb))
          all_goals (go_ret; exact ⟨ret_bool (by rw [rightLt_inst (by simp [nmI, hk]) (by rw [qb, Bool.and_false])]), BT.out.old⟩)
        · simp only [qb] at hi2
          go_upto_region 14 with (first
        | ((with_reducible refine wpList_load_in ?_ ?_ BT.out.m.i ?_); rfl; rfl)
        | ((with_reducible refine wpList_load_bal ?_ ?_ BT.out.m.b1 ?_); rfl; rfl)
        | ((with_reducible refine wpList_load_cm ?_ ?_ BT.out.m.c ?_); rfl; rfl)
        | ((with_reducible refine wpList_load_at wf.a ?_ ?_ BT.out.m.a ?_); rfl; rfl)
        | ((with_reducible refine wpList_load_ce wf.x ?_ ?_ BT.out.m.x ?_); rfl; rfl)
        | ((with_reducible refine wpList_load_de wf.d ?_ ?_ BT.out.m.d ?_); rfl; rfl)
        | ((with_reducible refine wpList_store_li (p := m.i.1) (q := m.i.2) ?_ ?_ BT.out.n ?_); rfl; rfl; intro w3 hn hg; have BT := hide (BT.out.put hn hg); have c0 : w3.cell? ⟨w.heap.size, 0, none⟩ = some (.int .i64 1) := BT.out.m.k1.trans (by rw [hk]); clear hn hg)
        | ((with_reducible refine wpList_store_lb (p := m.b.1) (q := m.b.2) ?_ ?_ BT.out.n ?_); rfl; rfl; intro w3 hn hg; have BT := hide (BT.out.put hn hg); have c0 : w3.cell? ⟨w.heap.size, 0, none⟩ = some (.int .i64 1) := BT.out.m.k1.trans (by rw [hk]); clear hn hg)
        | ((with_reducible refine wpList_store_la (y := m.a) wf.a ?_ ?_ BT.out.n ?_); rfl; rfl; intro w3 hn hg; have BT := hide (BT.out.put hn hg); have c0 : w3.cell? ⟨w.heap.size, 0, none⟩ = some (.int .i64 1) := BT.out.m.k1.trans (by rw [hk]); clear hn hg)
        | ((with_reducible refine wpList_store_lx (y := m.x) wf.x ?_ ?_ BT.out.n ?_); rfl; rfl; intro w3 hn hg; have BT := hide (BT.out.put hn hg); have c0 : w3.cell? ⟨w.heap.size, 0, none⟩ = some (.int .i64 1) := BT.out.m.k1.trans (by rw [hk]); clear hn hg)
        | ((with_reducible refine wpList_store_lz (z := m.z) ?_ ?_ BT.out.n ?_); rfl; rfl; intro w3 hn hg; have BT := hide (BT.out.put hn hg); have c0 : w3.cell? ⟨w.heap.size, 0, none⟩ = some (.int .i64 1) := BT.out.m.k1.trans (by rw [hk]); clear hn hg)
        | ((with_reducible refine wpList_store_ld (y := m.d) wf.d ?_ ?_ BT.out.n ?_); rfl; rfl; intro w3 hn hg; have BT := hide (BT.out.put hn hg); have c0 : w3.cell? ⟨w.heap.size, 0, none⟩ = some (.int .i64 1) := BT.out.m.k1.trans (by rw [hk]); clear hn hg)
        | (go_at_call 55; (with_reducible refine (hi1 _).mono ?_); rintro e w3 ⟨rfl, hb⟩; have BT := hide (BT.out.kept hb); have c0 : w3.cell? ⟨w.heap.size, 0, none⟩ = some (.int .i64 1) := BT.out.m.k1.trans (by rw [hk]); have c50 := BT.out.m.z; clear hb)
        | (go_at_call 38; (with_reducible refine (hi2 _).mono ?_); rintro e w3 ⟨rfl, hb⟩; have BT := hide (BT.out.kept hb); have c0 : w3.cell? ⟨w.heap.size, 0, none⟩ = some (.int .i64 1) := BT.out.m.k1.trans (by rw [hk]); have c50 := BT.out.m.z; clear hb)
        | (go_at_call 39; (with_reducible refine (hi3 _).mono ?_); rintro e w3 ⟨rfl, hb⟩; have BT := hide (BT.out.kept hb); have c0 : w3.cell? ⟨w.heap.size, 0, none⟩ = some (.int .i64 1) := BT.out.m.k1.trans (by rw [hk]); have c50 := BT.out.m.z; clear hb)
        | (go_at_call 40; (with_reducible refine (hi4 _).mono ?_); rintro e w3 ⟨rfl, hb⟩; have BT := hide (BT.out.kept hb); have c0 : w3.cell? ⟨w.heap.size, 0, none⟩ = some (.int .i64 1) := BT.out.m.k1.trans (by rw [hk]); have c50 := BT.out.m.z; clear hb)
        | (go_at_call 13; (with_reducible refine (hi5 _).mono ?_); rintro e w3 ⟨rfl, hb⟩; have BT := hide (BT.out.kept hb); have c0 : w3.cell? ⟨w.heap.size, 0, none⟩ = some (.int .i64 1) := BT.out.m.k1.trans (by rw [hk]); have c50 := BT.out.m.z; clear hb)
        | (go_at_call 56; (with_reducible refine (hi6 _).mono ?_); rintro e w3 ⟨rfl, hb⟩; have BT := hide (BT.out.kept hb); have c0 : w3.cell? ⟨w.heap.size, 0, none⟩ = some (.int .i64 1) := BT.out.m.k1.trans (by rw [hk]); have c50 := BT.out.m.z; clear hb))
          have HD := hide (show LAt w3.drew w.heap.size 37 m ∧ Bt w w3.drew m ({ bare0 m.k m.f m.t with i := m.i, b := m.b } : Lt) g from ⟨(BT.out.kept (Below.refl _ _).drew).m, BT.out.kept (Below.refl _ _).drew⟩)
          refine wp_region_noPanic ?_
          refine wp_region_T 7 (fun w' => LAt w' w.heap.size 37 m) (by kernel_rfl) ?_
          clear BT c0
          generalize World.drew _ = wd at HD ⊢
          refine anyT_take (i := 0) (v := ?ov0z1) (by simp only [List.getElem?_toArray, List.getElem?_cons_zero]; exact rfl) (by kernel_rfl) (by kernel_rfl) (fun _ _ _ h => h) (by kernel_rfl) (by kernel_rfl) (Or.inl ⟨by rfl, ?oy0z1⟩) (by with_reducible exact HD.out.1) ?or0z1
          case oy0z1 => (intro w hSw; go_simp; try with_reducible rfl)
          try simp only [Act.put, List.setIfInBounds_toArray, List.set_cons_zero, List.set_cons_succ]
          refine anyT_take (i := 1) (v := .agg #[.int .i64 m.c.k, .int .i64 m.c.c, .int .i64 m.c.q, .string m.c.key, .string m.c.en, .string m.c.old, .string m.c.val]) (by simp only [List.getElem?_toArray, List.getElem?_cons_succ, List.getElem?_cons_zero]; exact rfl) (by kernel_rfl) (by kernel_rfl) (fun _ _ _ h => h) (by kernel_rfl) (by kernel_rfl) (Or.inl ⟨by rfl, fun w hSw => exec_load_g rfl rfl hSw.c cm_under rfl cm_info⟩) (by with_reducible exact HD.out.1) ?_
          try simp only [Act.put, List.setIfInBounds_toArray, List.set_cons_zero, List.set_cons_succ]
          refine anyT_take (i := 2) (v := ?ov2z1) (by simp only [List.getElem?_toArray, List.getElem?_cons_succ, List.getElem?_cons_zero]; exact rfl) (by kernel_rfl) (by kernel_rfl) (fun _ _ _ h => h) (by kernel_rfl) (by kernel_rfl) (Or.inl ⟨by rfl, ?oy2z1⟩) (by with_reducible exact HD.out.1) ?or2z1
          case oy2z1 => (intro w hSw; go_simp; try with_reducible rfl)
          try simp only [Act.put, List.setIfInBounds_toArray, List.set_cons_zero, List.set_cons_succ]
          refine anyT_take (i := 3) (v := .agg (cA m.a)) (by simp only [List.getElem?_toArray, List.getElem?_cons_succ, List.getElem?_cons_zero]; exact rfl) (by kernel_rfl) (by kernel_rfl) (fun _ _ _ h => h) (by kernel_rfl) (by kernel_rfl) (Or.inl ⟨by rfl, fun w hSw => exec_load_g rfl rfl hSw.a at_under rfl (by rw [length_cellsR, wf.a]; exact at_info)⟩) (by with_reducible exact HD.out.1) ?_
          try simp only [Act.put, List.setIfInBounds_toArray, List.set_cons_zero, List.set_cons_succ]
          refine anyT_take (i := 4) (v := ?ov4z1) (by simp only [List.getElem?_toArray, List.getElem?_cons_succ, List.getElem?_cons_zero]; exact rfl) (by kernel_rfl) (by kernel_rfl) (fun _ _ _ h => h) (by kernel_rfl) (by kernel_rfl) (Or.inl ⟨by rfl, ?oy4z1⟩) (by with_reducible exact HD.out.1) ?or4z1
          case oy4z1 => (intro w hSw; go_simp; try with_reducible rfl)
          try simp only [Act.put, List.setIfInBounds_toArray, List.set_cons_zero, List.set_cons_succ]
          refine anyT_one (i := 5) (by kernel_rfl) (by simp only [List.getElem?_toArray, List.getElem?_cons_succ, List.getElem?_cons_zero]; exact rfl) (fun K hK => ?_)
          refine wp_store_lc (y := m.c) rfl rfl rfl HD.out.2.n fun w5 hn hg => ?_
          have HD := hide (show LAt w5 w.heap.size 37 m ∧ Bt w w5 m { ({ bare0 m.k m.f m.t with i := m.i, b := m.b } : Lt) with c := m.c } g from ⟨(HD.out.2.put hn hg).m, HD.out.2.put hn hg⟩)
          refine hK.out _ _ (fun _ => HD.out.1) ?_
          clear hK K hn hg
          try simp only [Act.put]
          refine anyT_take (i := 6) (v := ?ov6z1) (by simp only [List.getElem?_toArray, List.getElem?_cons_succ, List.getElem?_cons_zero]; exact rfl) (by kernel_rfl) (by kernel_rfl) (fun _ _ _ h => h) (by kernel_rfl) (by kernel_rfl) (Or.inl ⟨by rfl, ?oy6z1⟩) (by with_reducible exact HD.out.1) ?or6z1
          case oy6z1 => (intro w hSw; go_simp; try with_reducible rfl)
          try simp only [Act.put, List.setIfInBounds_toArray, List.set_cons_zero, List.set_cons_succ]
          refine anyT_one (i := 7) (by kernel_rfl) (by simp only [List.getElem?_toArray, List.getElem?_cons_succ, List.getElem?_cons_zero]; exact rfl) (fun K hK => ?_)
          refine wp_store_la (y := m.a) wf.a rfl rfl rfl HD.out.2.n fun w3 hn hg => ?_
          have BT := hide (show Bt w w3 m { ({ ({ bare0 m.k m.f m.t with i := m.i, b := m.b } : Lt) with c := m.c } : Lt) with a := m.a } g from HD.out.2.put hn hg)
          have c0 : w3.cell? ⟨w.heap.size, 0, none⟩ = some (.int .i64 1) := BT.out.m.k1.trans (by rw [hk])
          refine hK.out _ _ (fun e => absurd rfl e) ?_
          clear hK K hn hg HD
          refine anyT_done (by kernel_rfl) ?_
          refine NoPanic.normal ?_
          try simp only [Act.put]
          go_upto_region 24 with (first
        | ((with_reducible refine wpList_load_in ?_ ?_ BT.out.m.i ?_); rfl; rfl)
        | ((with_reducible refine wpList_load_bal ?_ ?_ BT.out.m.b1 ?_); rfl; rfl)
        | ((with_reducible refine wpList_load_cm ?_ ?_ BT.out.m.c ?_); rfl; rfl)
        | ((with_reducible refine wpList_load_at wf.a ?_ ?_ BT.out.m.a ?_); rfl; rfl)
        | ((with_reducible refine wpList_load_ce wf.x ?_ ?_ BT.out.m.x ?_); rfl; rfl)
        | ((with_reducible refine wpList_load_de wf.d ?_ ?_ BT.out.m.d ?_); rfl; rfl)
        | ((with_reducible refine wpList_store_li (p := m.i.1) (q := m.i.2) ?_ ?_ BT.out.n ?_); rfl; rfl; intro w3 hn hg; have BT := hide (BT.out.put hn hg); have c0 : w3.cell? ⟨w.heap.size, 0, none⟩ = some (.int .i64 1) := BT.out.m.k1.trans (by rw [hk]); clear hn hg)
        | ((with_reducible refine wpList_store_lb (p := m.b.1) (q := m.b.2) ?_ ?_ BT.out.n ?_); rfl; rfl; intro w3 hn hg; have BT := hide (BT.out.put hn hg); have c0 : w3.cell? ⟨w.heap.size, 0, none⟩ = some (.int .i64 1) := BT.out.m.k1.trans (by rw [hk]); clear hn hg)
        | ((with_reducible refine wpList_store_la (y := m.a) wf.a ?_ ?_ BT.out.n ?_); rfl; rfl; intro w3 hn hg; have BT := hide (BT.out.put hn hg); have c0 : w3.cell? ⟨w.heap.size, 0, none⟩ = some (.int .i64 1) := BT.out.m.k1.trans (by rw [hk]); clear hn hg)
        | ((with_reducible refine wpList_store_lx (y := m.x) wf.x ?_ ?_ BT.out.n ?_); rfl; rfl; intro w3 hn hg; have BT := hide (BT.out.put hn hg); have c0 : w3.cell? ⟨w.heap.size, 0, none⟩ = some (.int .i64 1) := BT.out.m.k1.trans (by rw [hk]); clear hn hg)
        | ((with_reducible refine wpList_store_lz (z := m.z) ?_ ?_ BT.out.n ?_); rfl; rfl; intro w3 hn hg; have BT := hide (BT.out.put hn hg); have c0 : w3.cell? ⟨w.heap.size, 0, none⟩ = some (.int .i64 1) := BT.out.m.k1.trans (by rw [hk]); clear hn hg)
        | ((with_reducible refine wpList_store_ld (y := m.d) wf.d ?_ ?_ BT.out.n ?_); rfl; rfl; intro w3 hn hg; have BT := hide (BT.out.put hn hg); have c0 : w3.cell? ⟨w.heap.size, 0, none⟩ = some (.int .i64 1) := BT.out.m.k1.trans (by rw [hk]); clear hn hg)
        | (go_at_call 55; (with_reducible refine (hi1 _).mono ?_); rintro e w3 ⟨rfl, hb⟩; have BT := hide (BT.out.kept hb); have c0 : w3.cell? ⟨w.heap.size, 0, none⟩ = some (.int .i64 1) := BT.out.m.k1.trans (by rw [hk]); have c50 := BT.out.m.z; clear hb)
        | (go_at_call 38; (with_reducible refine (hi2 _).mono ?_); rintro e w3 ⟨rfl, hb⟩; have BT := hide (BT.out.kept hb); have c0 : w3.cell? ⟨w.heap.size, 0, none⟩ = some (.int .i64 1) := BT.out.m.k1.trans (by rw [hk]); have c50 := BT.out.m.z; clear hb)
        | (go_at_call 39; (with_reducible refine (hi3 _).mono ?_); rintro e w3 ⟨rfl, hb⟩; have BT := hide (BT.out.kept hb); have c0 : w3.cell? ⟨w.heap.size, 0, none⟩ = some (.int .i64 1) := BT.out.m.k1.trans (by rw [hk]); have c50 := BT.out.m.z; clear hb)
        | (go_at_call 40; (with_reducible refine (hi4 _).mono ?_); rintro e w3 ⟨rfl, hb⟩; have BT := hide (BT.out.kept hb); have c0 : w3.cell? ⟨w.heap.size, 0, none⟩ = some (.int .i64 1) := BT.out.m.k1.trans (by rw [hk]); have c50 := BT.out.m.z; clear hb)
        | (go_at_call 13; (with_reducible refine (hi5 _).mono ?_); rintro e w3 ⟨rfl, hb⟩; have BT := hide (BT.out.kept hb); have c0 : w3.cell? ⟨w.heap.size, 0, none⟩ = some (.int .i64 1) := BT.out.m.k1.trans (by rw [hk]); have c50 := BT.out.m.z; clear hb)
        | (go_at_call 56; (with_reducible refine (hi6 _).mono ?_); rintro e w3 ⟨rfl, hb⟩; have BT := hide (BT.out.kept hb); have c0 : w3.cell? ⟨w.heap.size, 0, none⟩ = some (.int .i64 1) := BT.out.m.k1.trans (by rw [hk]); have c50 := BT.out.m.z; clear hb))
          have e : ({ bare0 m.k m.f m.t with i := m.i, b := m.b, c := m.c, a := m.a } : Lt) = bareL m := by simp [bareL, bare0, nmI, nmB, nmC, nmA, nmX, nmD, nmZ, hk]
          have BT := hide (show Bt w w3 m (bareL m) g by rw [← e]; exact BT.out)
          clear e
          have heq := fun w => eql_letter BT.out.m.wf BT.out.n.wf w
          have c50 := BT.out.m.z
          go_wp2_with (first
        | ((with_reducible refine wpList_load_in ?_ ?_ BT.out.m.i ?_); rfl; rfl)
        | ((with_reducible refine wpList_load_bal ?_ ?_ BT.out.m.b1 ?_); rfl; rfl)
        | ((with_reducible refine wpList_load_cm ?_ ?_ BT.out.m.c ?_); rfl; rfl)
        | ((with_reducible refine wpList_load_at wf.a ?_ ?_ BT.out.m.a ?_); rfl; rfl)
        | ((with_reducible refine wpList_load_ce wf.x ?_ ?_ BT.out.m.x ?_); rfl; rfl)
        | ((with_reducible refine wpList_load_de wf.d ?_ ?_ BT.out.m.d ?_); rfl; rfl)
        | ((with_reducible refine wpList_store_li (p := m.i.1) (q := m.i.2) ?_ ?_ BT.out.n ?_); rfl; rfl; intro w3 hn hg; have BT := hide (BT.out.put hn hg); have c0 : w3.cell? ⟨w.heap.size, 0, none⟩ = some (.int .i64 1) := BT.out.m.k1.trans (by rw [hk]); clear hn hg)
        | ((with_reducible refine wpList_store_lb (p := m.b.1) (q := m.b.2) ?_ ?_ BT.out.n ?_); rfl; rfl; intro w3 hn hg; have BT := hide (BT.out.put hn hg); have c0 : w3.cell? ⟨w.heap.size, 0, none⟩ = some (.int .i64 1) := BT.out.m.k1.trans (by rw [hk]); clear hn hg)
        | ((with_reducible refine wpList_store_la (y := m.a) wf.a ?_ ?_ BT.out.n ?_); rfl; rfl; intro w3 hn hg; have BT := hide (BT.out.put hn hg); have c0 : w3.cell? ⟨w.heap.size, 0, none⟩ = some (.int .i64 1) := BT.out.m.k1.trans (by rw [hk]); clear hn hg)
        | ((with_reducible refine wpList_store_lx (y := m.x) wf.x ?_ ?_ BT.out.n ?_); rfl; rfl; intro w3 hn hg; have BT := hide (BT.out.put hn hg); have c0 : w3.cell? ⟨w.heap.size, 0, none⟩ = some (.int .i64 1) := BT.out.m.k1.trans (by rw [hk]); clear hn hg)
        | ((with_reducible refine wpList_store_lz (z := m.z) ?_ ?_ BT.out.n ?_); rfl; rfl; intro w3 hn hg; have BT := hide (BT.out.put hn hg); have c0 : w3.cell? ⟨w.heap.size, 0, none⟩ = some (.int .i64 1) := BT.out.m.k1.trans (by rw [hk]); clear hn hg)
        | ((with_reducible refine wpList_store_ld (y := m.d) wf.d ?_ ?_ BT.out.n ?_); rfl; rfl; intro w3 hn hg; have BT := hide (BT.out.put hn hg); have c0 : w3.cell? ⟨w.heap.size, 0, none⟩ = some (.int .i64 1) := BT.out.m.k1.trans (by rw [hk]); clear hn hg)
        | (go_at_call 55; (with_reducible refine (hi1 _).mono ?_); rintro e w3 ⟨rfl, hb⟩; have BT := hide (BT.out.kept hb); have c0 : w3.cell? ⟨w.heap.size, 0, none⟩ = some (.int .i64 1) := BT.out.m.k1.trans (by rw [hk]); have c50 := BT.out.m.z; clear hb)
        | (go_at_call 38; (with_reducible refine (hi2 _).mono ?_); rintro e w3 ⟨rfl, hb⟩; have BT := hide (BT.out.kept hb); have c0 : w3.cell? ⟨w.heap.size, 0, none⟩ = some (.int .i64 1) := BT.out.m.k1.trans (by rw [hk]); have c50 := BT.out.m.z; clear hb)
        | (go_at_call 39; (with_reducible refine (hi3 _).mono ?_); rintro e w3 ⟨rfl, hb⟩; have BT := hide (BT.out.kept hb); have c0 : w3.cell? ⟨w.heap.size, 0, none⟩ = some (.int .i64 1) := BT.out.m.k1.trans (by rw [hk]); have c50 := BT.out.m.z; clear hb)
        | (go_at_call 40; (with_reducible refine (hi4 _).mono ?_); rintro e w3 ⟨rfl, hb⟩; have BT := hide (BT.out.kept hb); have c0 : w3.cell? ⟨w.heap.size, 0, none⟩ = some (.int .i64 1) := BT.out.m.k1.trans (by rw [hk]); have c50 := BT.out.m.z; clear hb)
        | (go_at_call 13; (with_reducible refine (hi5 _).mono ?_); rintro e w3 ⟨rfl, hb⟩; have BT := hide (BT.out.kept hb); have c0 : w3.cell? ⟨w.heap.size, 0, none⟩ = some (.int .i64 1) := BT.out.m.k1.trans (by rw [hk]); have c50 := BT.out.m.z; clear hb)
        | (go_at_call 56; (with_reducible refine (hi6 _).mono ?_); rintro e w3 ⟨rfl, hb⟩; have BT := hide (BT.out.kept hb); have c0 : w3.cell? ⟨w.heap.size, 0, none⟩ = some (.int .i64 1) := BT.out.m.k1.trans (by rw [hk]); have c50 := BT.out.m.z; clear hb)
        | ((with_reducible refine wpList_load_lt BT.out.m.wf ?_ ?_ BT.out.m.all ?_); rfl; rfl)
        | ((with_reducible refine wpList_load_lt BT.out.n.wf ?_ ?_ BT.out.n.all ?_); rfl; rfl))
          all_goals (go_ret; refine ⟨ret_bool ?_, BT.out.old⟩; rw [rightLt_tail HC.out (fun _ => by rw [qi, qb]; rfl)]; clear hi1 hi2 hi3 hi4 hi5 hi6 heq c50; first | (simp [*]; done) | (simp [*]; omega))
    · have c0 : w2.cell? ⟨w.heap.size, 0, none⟩ = some (.int .i64 2) := BT.out.m.k1.trans (by rw [hk])
      cases qi : rightI m.i.1 m.i.2
      · simp only [qi] at hi1
        go_upto_region 24 with (first
        | ((with_reducible refine wpList_load_in ?_ ?_ BT.out.m.i ?_); rfl; rfl)
        | ((with_reducible refine wpList_load_bal ?_ ?_ BT.out.m.b1 ?_); rfl; rfl)
        | ((with_reducible refine wpList_load_cm ?_ ?_ BT.out.m.c ?_); rfl; rfl)
        | ((with_reducible refine wpList_load_at wf.a ?_ ?_ BT.out.m.a ?_); rfl; rfl)
        | ((with_reducible refine wpList_load_ce wf.x ?_ ?_ BT.out.m.x ?_); rfl; rfl)
        | ((with_reducible refine wpList_load_de wf.d ?_ ?_ BT.out.m.d ?_); rfl; rfl)
        | ((with_reducible refine wpList_store_li (p := m.i.1) (q := m.i.2) ?_ ?_ BT.out.n ?_); rfl; rfl; intro w3 hn hg; have BT := hide (BT.out.put hn hg); have c0 : w3.cell? ⟨w.heap.size, 0, none⟩ = some (.int .i64 2) := BT.out.m.k1.trans (by rw [hk]); clear hn hg)
        | ((with_reducible refine wpList_store_lb (p := m.b.1) (q := m.b.2) ?_ ?_ BT.out.n ?_); rfl; rfl; intro w3 hn hg; have BT := hide (BT.out.put hn hg); have c0 : w3.cell? ⟨w.heap.size, 0, none⟩ = some (.int .i64 2) := BT.out.m.k1.trans (by rw [hk]); clear hn hg)
        | ((with_reducible refine wpList_store_la (y := m.a) wf.a ?_ ?_ BT.out.n ?_); rfl; rfl; intro w3 hn hg; have BT := hide (BT.out.put hn hg); have c0 : w3.cell? ⟨w.heap.size, 0, none⟩ = some (.int .i64 2) := BT.out.m.k1.trans (by rw [hk]); clear hn hg)
        | ((with_reducible refine wpList_store_lx (y := m.x) wf.x ?_ ?_ BT.out.n ?_); rfl; rfl; intro w3 hn hg; have BT := hide (BT.out.put hn hg); have c0 : w3.cell? ⟨w.heap.size, 0, none⟩ = some (.int .i64 2) := BT.out.m.k1.trans (by rw [hk]); clear hn hg)
        | ((with_reducible refine wpList_store_lz (z := m.z) ?_ ?_ BT.out.n ?_); rfl; rfl; intro w3 hn hg; have BT := hide (BT.out.put hn hg); have c0 : w3.cell? ⟨w.heap.size, 0, none⟩ = some (.int .i64 2) := BT.out.m.k1.trans (by rw [hk]); clear hn hg)
        | ((with_reducible refine wpList_store_ld (y := m.d) wf.d ?_ ?_ BT.out.n ?_); rfl; rfl; intro w3 hn hg; have BT := hide (BT.out.put hn hg); have c0 : w3.cell? ⟨w.heap.size, 0, none⟩ = some (.int .i64 2) := BT.out.m.k1.trans (by rw [hk]); clear hn hg)
        | (go_at_call 55; (with_reducible refine (hi1 _).mono ?_); rintro e w3 ⟨rfl, hb⟩; have BT := hide (BT.out.kept hb); have c0 : w3.cell? ⟨w.heap.size, 0, none⟩ = some (.int .i64 2) := BT.out.m.k1.trans (by rw [hk]); have c50 := BT.out.m.z; clear hb)
        | (go_at_call 38; (with_reducible refine (hi2 _).mono ?_); rintro e w3 ⟨rfl, hb⟩; have BT := hide (BT.out.kept hb); have c0 : w3.cell? ⟨w.heap.size, 0, none⟩ = some (.int .i64 2) := BT.out.m.k1.trans (by rw [hk]); have c50 := BT.out.m.z; clear hb)
        | (go_at_call 39; (with_reducible refine (hi3 _).mono ?_); rintro e w3 ⟨rfl, hb⟩; have BT := hide (BT.out.kept hb); have c0 : w3.cell? ⟨w.heap.size, 0, none⟩ = some (.int .i64 2) := BT.out.m.k1.trans (by rw [hk]); have c50 := BT.out.m.z; clear hb)
        | (go_at_call 40; (with_reducible refine (hi4 _).mono ?_); rintro e w3 ⟨rfl, hb⟩; have BT := hide (BT.out.kept hb); have c0 : w3.cell? ⟨w.heap.size, 0, none⟩ = some (.int .i64 2) := BT.out.m.k1.trans (by rw [hk]); have c50 := BT.out.m.z; clear hb)
        | (go_at_call 13; (with_reducible refine (hi5 _).mono ?_); rintro e w3 ⟨rfl, hb⟩; have BT := hide (BT.out.kept hb); have c0 : w3.cell? ⟨w.heap.size, 0, none⟩ = some (.int .i64 2) := BT.out.m.k1.trans (by rw [hk]); have c50 := BT.out.m.z; clear hb)
        | (go_at_call 56; (with_reducible refine (hi6 _).mono ?_); rintro e w3 ⟨rfl, hb⟩; have BT := hide (BT.out.kept hb); have c0 : w3.cell? ⟨w.heap.size, 0, none⟩ = some (.int .i64 2) := BT.out.m.k1.trans (by rw [hk]); have c50 := BT.out.m.z; clear hb))
        all_goals (go_ret; exact ⟨ret_bool (by rw [rightLt_inst (by simp [nmI, hk]) (by rw [qi]; rfl)]), BT.out.old⟩)
      · simp only [qi] at hi1
        cases qb : rightB m.b.1 m.b.2
        · simp only [qb] at hi2
          go_upto_region 24 with (first
        | ((with_reducible refine wpList_load_in ?_ ?_ BT.out.m.i ?_); rfl; rfl)
        | ((with_reducible refine wpList_load_bal ?_ ?_ BT.out.m.b1 ?_); rfl; rfl)
        | ((with_reducible refine wpList_load_cm ?_ ?_ BT.out.m.c ?_); rfl; rfl)
        | ((with_reducible refine wpList_load_at wf.a ?_ ?_ BT.out.m.a ?_); rfl; rfl)
        | ((with_reducible refine wpList_load_ce wf.x ?_ ?_ BT.out.m.x ?_); rfl; rfl)
        | ((with_reducible refine wpList_load_de wf.d ?_ ?_ BT.out.m.d ?_); rfl; rfl)
        | ((with_reducible refine wpList_store_li (p := m.i.1) (q := m.i.2) ?_ ?_ BT.out.n ?_); rfl; rfl; intro w3 hn hg; have BT := hide (BT.out.put hn hg); have c0 : w3.cell? ⟨w.heap.size, 0, none⟩ = some (.int .i64 2) := BT.out.m.k1.trans (by rw [hk]); clear hn hg)
        | ((with_reducible refine wpList_store_lb (p := m.b.1) (q := m.b.2) ?_ ?_ BT.out.n ?_); rfl; rfl; intro w3 hn hg; have BT := hide (BT.out.put hn hg); have c0 : w3.cell? ⟨w.heap.size, 0, none⟩ = some (.int .i64 2) := BT.out.m.k1.trans (by rw [hk]); clear hn hg)
        | ((with_reducible refine wpList_store_la (y := m.a) wf.a ?_ ?_ BT.out.n ?_); rfl; rfl; intro w3 hn hg; have BT := hide (BT.out.put hn hg); have c0 : w3.cell? ⟨w.heap.size, 0, none⟩ = some (.int .i64 2) := BT.out.m.k1.trans (by rw [hk]); clear hn hg)
        | ((with_reducible refine wpList_store_lx (y := m.x) wf.x ?_ ?_ BT.out.n ?_); rfl; rfl; intro w3 hn hg; have BT := hide (BT.out.put hn hg); have c0 : w3.cell? ⟨w.heap.size, 0, none⟩ = some (.int .i64 2) := BT.out.m.k1.trans (by rw [hk]); clear hn hg)
        | ((with_reducible refine wpList_store_lz (z := m.z) ?_ ?_ BT.out.n ?_); rfl; rfl; intro w3 hn hg; have BT := hide (BT.out.put hn hg); have c0 : w3.cell? ⟨w.heap.size, 0, none⟩ = some (.int .i64 2) := BT.out.m.k1.trans (by rw [hk]); clear hn hg)
        | ((with_reducible refine wpList_store_ld (y := m.d) wf.d ?_ ?_ BT.out.n ?_); rfl; rfl; intro w3 hn hg; have BT := hide (BT.out.put hn hg); have c0 : w3.cell? ⟨w.heap.size, 0, none⟩ = some (.int .i64 2) := BT.out.m.k1.trans (by rw [hk]); clear hn hg)
        | (go_at_call 55; (with_reducible refine (hi1 _).mono ?_); rintro e w3 ⟨rfl, hb⟩; have BT := hide (BT.out.kept hb); have c0 : w3.cell? ⟨w.heap.size, 0, none⟩ = some (.int .i64 2) := BT.out.m.k1.trans (by rw [hk]); have c50 := BT.out.m.z; clear hb)
        | (go_at_call 38; (with_reducible refine (hi2 _).mono ?_); rintro e w3 ⟨rfl, hb⟩; have BT := hide (BT.out.kept hb); have c0 : w3.cell? ⟨w.heap.size, 0, none⟩ = some (.int .i64 2) := BT.out.m.k1.trans (by rw [hk]); have c50 := BT.out.m.z; clear hb)
        | (go_at_call 39; (with_reducible refine (hi3 _).mono ?_); rintro e w3 ⟨rfl, hb⟩; have BT := hide (BT.out.kept hb); have c0 : w3.cell? ⟨w.heap.size, 0, none⟩ = some (.int .i64 2) := BT.out.m.k1.trans (by rw [hk]); have c50 := BT.out.m.z; clear hb)
        | (go_at_call 40; (with_reducible refine (hi4 _).mono ?_); rintro e w3 ⟨rfl, hb⟩; have BT := hide (BT.out.kept hb); have c0 : w3.cell? ⟨w.heap.size, 0, none⟩ = some (.int .i64 2) := BT.out.m.k1.trans (by rw [hk]); have c50 := BT.out.m.z; clear hb)
        | (go_at_call 13; (with_reducible refine (hi5 _).mono ?_); rintro e w3 ⟨rfl, hb⟩; have BT := hide (BT.out.kept hb); have c0 : w3.cell? ⟨w.heap.size, 0, none⟩ = some (.int .i64 2) := BT.out.m.k1.trans (by rw [hk]); have c50 := BT.out.m.z; clear hb)
        | (go_at_call 56; (with_reducible refine (hi6 _).mono ?_); rintro e w3 ⟨rfl, hb⟩; have BT := hide (BT.out.kept hb); have c0 : w3.cell? ⟨w.heap.size, 0, none⟩ = some (.int .i64 2) := BT.out.m.k1.trans (by rw [hk]); have c50 := BT.out.m.z; clear hb))
          all_goals (go_ret; exact ⟨ret_bool (by rw [rightLt_inst (by simp [nmI, hk]) (by rw [qb, Bool.and_false])]), BT.out.old⟩)
        · simp only [qb] at hi2
          go_upto_region 24 with (first
        | ((with_reducible refine wpList_load_in ?_ ?_ BT.out.m.i ?_); rfl; rfl)
        | ((with_reducible refine wpList_load_bal ?_ ?_ BT.out.m.b1 ?_); rfl; rfl)
        | ((with_reducible refine wpList_load_cm ?_ ?_ BT.out.m.c ?_); rfl; rfl)
        | ((with_reducible refine wpList_load_at wf.a ?_ ?_ BT.out.m.a ?_); rfl; rfl)
        | ((with_reducible refine wpList_load_ce wf.x ?_ ?_ BT.out.m.x ?_); rfl; rfl)
        | ((with_reducible refine wpList_load_de wf.d ?_ ?_ BT.out.m.d ?_); rfl; rfl)
        | ((with_reducible refine wpList_store_li (p := m.i.1) (q := m.i.2) ?_ ?_ BT.out.n ?_); rfl; rfl; intro w3 hn hg; have BT := hide (BT.out.put hn hg); have c0 : w3.cell? ⟨w.heap.size, 0, none⟩ = some (.int .i64 2) := BT.out.m.k1.trans (by rw [hk]); clear hn hg)
        | ((with_reducible refine wpList_store_lb (p := m.b.1) (q := m.b.2) ?_ ?_ BT.out.n ?_); rfl; rfl; intro w3 hn hg; have BT := hide (BT.out.put hn hg); have c0 : w3.cell? ⟨w.heap.size, 0, none⟩ = some (.int .i64 2) := BT.out.m.k1.trans (by rw [hk]); clear hn hg)
        | ((with_reducible refine wpList_store_la (y := m.a) wf.a ?_ ?_ BT.out.n ?_); rfl; rfl; intro w3 hn hg; have BT := hide (BT.out.put hn hg); have c0 : w3.cell? ⟨w.heap.size, 0, none⟩ = some (.int .i64 2) := BT.out.m.k1.trans (by rw [hk]); clear hn hg)
        | ((with_reducible refine wpList_store_lx (y := m.x) wf.x ?_ ?_ BT.out.n ?_); rfl; rfl; intro w3 hn hg; have BT := hide (BT.out.put hn hg); have c0 : w3.cell? ⟨w.heap.size, 0, none⟩ = some (.int .i64 2) := BT.out.m.k1.trans (by rw [hk]); clear hn hg)
        | ((with_reducible refine wpList_store_lz (z := m.z) ?_ ?_ BT.out.n ?_); rfl; rfl; intro w3 hn hg; have BT := hide (BT.out.put hn hg); have c0 : w3.cell? ⟨w.heap.size, 0, none⟩ = some (.int .i64 2) := BT.out.m.k1.trans (by rw [hk]); clear hn hg)
        | ((with_reducible refine wpList_store_ld (y := m.d) wf.d ?_ ?_ BT.out.n ?_); rfl; rfl; intro w3 hn hg; have BT := hide (BT.out.put hn hg); have c0 : w3.cell? ⟨w.heap.size, 0, none⟩ = some (.int .i64 2) := BT.out.m.k1.trans (by rw [hk]); clear hn hg)
        | (go_at_call 55; (with_reducible refine (hi1 _).mono ?_); rintro e w3 ⟨rfl, hb⟩; have BT := hide (BT.out.kept hb); have c0 : w3.cell? ⟨w.heap.size, 0, none⟩ = some (.int .i64 2) := BT.out.m.k1.trans (by rw [hk]); have c50 := BT.out.m.z; clear hb)
        | (go_at_call 38; (with_reducible refine (hi2 _).mono ?_); rintro e w3 ⟨rfl, hb⟩; have BT := hide (BT.out.kept hb); have c0 : w3.cell? ⟨w.heap.size, 0, none⟩ = some (.int .i64 2) := BT.out.m.k1.trans (by rw [hk]); have c50 := BT.out.m.z; clear hb)
        | (go_at_call 39; (with_reducible refine (hi3 _).mono ?_); rintro e w3 ⟨rfl, hb⟩; have BT := hide (BT.out.kept hb); have c0 : w3.cell? ⟨w.heap.size, 0, none⟩ = some (.int .i64 2) := BT.out.m.k1.trans (by rw [hk]); have c50 := BT.out.m.z; clear hb)
        | (go_at_call 40; (with_reducible refine (hi4 _).mono ?_); rintro e w3 ⟨rfl, hb⟩; have BT := hide (BT.out.kept hb); have c0 : w3.cell? ⟨w.heap.size, 0, none⟩ = some (.int .i64 2) := BT.out.m.k1.trans (by rw [hk]); have c50 := BT.out.m.z; clear hb)
        | (go_at_call 13; (with_reducible refine (hi5 _).mono ?_); rintro e w3 ⟨rfl, hb⟩; have BT := hide (BT.out.kept hb); have c0 : w3.cell? ⟨w.heap.size, 0, none⟩ = some (.int .i64 2) := BT.out.m.k1.trans (by rw [hk]); have c50 := BT.out.m.z; clear hb)
        | (go_at_call 56; (with_reducible refine (hi6 _).mono ?_); rintro e w3 ⟨rfl, hb⟩; have BT := hide (BT.out.kept hb); have c0 : w3.cell? ⟨w.heap.size, 0, none⟩ = some (.int .i64 2) := BT.out.m.k1.trans (by rw [hk]); have c50 := BT.out.m.z; clear hb))
          have e : ({ bare0 m.k m.f m.t with i := m.i, b := m.b, a := m.a } : Lt) = bareL m := by simp [bareL, bare0, nmI, nmB, nmC, nmA, nmX, nmD, nmZ, hk]
          have BT := hide (show Bt w w3 m (bareL m) g by rw [← e]; exact BT.out)
          clear e
          have heq := fun w => eql_letter BT.out.m.wf BT.out.n.wf w
          have c50 := BT.out.m.z
          go_wp2_with (first
        | ((with_reducible refine wpList_load_in ?_ ?_ BT.out.m.i ?_); rfl; rfl)
        | ((with_reducible refine wpList_load_bal ?_ ?_ BT.out.m.b1 ?_); rfl; rfl)
        | ((with_reducible refine wpList_load_cm ?_ ?_ BT.out.m.c ?_); rfl; rfl)
        | ((with_reducible refine wpList_load_at wf.a ?_ ?_ BT.out.m.a ?_); rfl; rfl)
        | ((with_reducible refine wpList_load_ce wf.x ?_ ?_ BT.out.m.x ?_); rfl; rfl)
        | ((with_reducible refine wpList_load_de wf.d ?_ ?_ BT.out.m.d ?_); rfl; rfl)
        | ((with_reducible refine wpList_store_li (p := m.i.1) (q := m.i.2) ?_ ?_ BT.out.n ?_); rfl; rfl; intro w3 hn hg; have BT := hide (BT.out.put hn hg); have c0 : w3.cell? ⟨w.heap.size, 0, none⟩ = some (.int .i64 2) := BT.out.m.k1.trans (by rw [hk]); clear hn hg)
        | ((with_reducible refine wpList_store_lb (p := m.b.1) (q := m.b.2) ?_ ?_ BT.out.n ?_); rfl; rfl; intro w3 hn hg; have BT := hide (BT.out.put hn hg); have c0 : w3.cell? ⟨w.heap.size, 0, none⟩ = some (.int .i64 2) := BT.out.m.k1.trans (by rw [hk]); clear hn hg)
        | ((with_reducible refine wpList_store_la (y := m.a) wf.a ?_ ?_ BT.out.n ?_); rfl; rfl; intro w3 hn hg; have BT := hide (BT.out.put hn hg); have c0 : w3.cell? ⟨w.heap.size, 0, none⟩ = some (.int .i64 2) := BT.out.m.k1.trans (by rw [hk]); clear hn hg)
        | ((with_reducible refine wpList_store_lx (y := m.x) wf.x ?_ ?_ BT.out.n ?_); rfl; rfl; intro w3 hn hg; have BT := hide (BT.out.put hn hg); have c0 : w3.cell? ⟨w.heap.size, 0, none⟩ = some (.int .i64 2) := BT.out.m.k1.trans (by rw [hk]); clear hn hg)
        | ((with_reducible refine wpList_store_lz (z := m.z) ?_ ?_ BT.out.n ?_); rfl; rfl; intro w3 hn hg; have BT := hide (BT.out.put hn hg); have c0 : w3.cell? ⟨w.heap.size, 0, none⟩ = some (.int .i64 2) := BT.out.m.k1.trans (by rw [hk]); clear hn hg)
        | ((with_reducible refine wpList_store_ld (y := m.d) wf.d ?_ ?_ BT.out.n ?_); rfl; rfl; intro w3 hn hg; have BT := hide (BT.out.put hn hg); have c0 : w3.cell? ⟨w.heap.size, 0, none⟩ = some (.int .i64 2) := BT.out.m.k1.trans (by rw [hk]); clear hn hg)
        | (go_at_call 55; (with_reducible refine (hi1 _).mono ?_); rintro e w3 ⟨rfl, hb⟩; have BT := hide (BT.out.kept hb); have c0 : w3.cell? ⟨w.heap.size, 0, none⟩ = some (.int .i64 2) := BT.out.m.k1.trans (by rw [hk]); have c50 := BT.out.m.z; clear hb)
        | (go_at_call 38; (with_reducible refine (hi2 _).mono ?_); rintro e w3 ⟨rfl, hb⟩; have BT := hide (BT.out.kept hb); have c0 : w3.cell? ⟨w.heap.size, 0, none⟩ = some (.int .i64 2) := BT.out.m.k1.trans (by rw [hk]); have c50 := BT.out.m.z; clear hb)
        | (go_at_call 39; (with_reducible refine (hi3 _).mono ?_); rintro e w3 ⟨rfl, hb⟩; have BT := hide (BT.out.kept hb); have c0 : w3.cell? ⟨w.heap.size, 0, none⟩ = some (.int .i64 2) := BT.out.m.k1.trans (by rw [hk]); have c50 := BT.out.m.z; clear hb)
        | (go_at_call 40; (with_reducible refine (hi4 _).mono ?_); rintro e w3 ⟨rfl, hb⟩; have BT := hide (BT.out.kept hb); have c0 : w3.cell? ⟨w.heap.size, 0, none⟩ = some (.int .i64 2) := BT.out.m.k1.trans (by rw [hk]); have c50 := BT.out.m.z; clear hb)
        | (go_at_call 13; (with_reducible refine (hi5 _).mono ?_); rintro e w3 ⟨rfl, hb⟩; have BT := hide (BT.out.kept hb); have c0 : w3.cell? ⟨w.heap.size, 0, none⟩ = some (.int .i64 2) := BT.out.m.k1.trans (by rw [hk]); have c50 := BT.out.m.z; clear hb)
        | (go_at_call 56; (with_reducible refine (hi6 _).mono ?_); rintro e w3 ⟨rfl, hb⟩; have BT := hide (BT.out.kept hb); have c0 : w3.cell? ⟨w.heap.size, 0, none⟩ = some (.int .i64 2) := BT.out.m.k1.trans (by rw [hk]); have c50 := BT.out.m.z; clear hb)
        | ((with_reducible refine wpList_load_lt BT.out.m.wf ?_ ?_ BT.out.m.all ?_); rfl; rfl)
        | ((with_reducible refine wpList_load_lt BT.out.n.wf ?_ ?_ BT.out.n.all ?_); rfl; rfl))
          all_goals (go_ret; refine ⟨ret_bool ?_, BT.out.old⟩; rw [rightLt_tail HC.out (fun _ => by rw [qi, qb]; rfl)]; clear hi1 hi2 hi3 hi4 hi5 hi6 heq c50; first | (simp [*]; done) | (simp [*]; omega))
    · have c0 : w2.cell? ⟨w.heap.size, 0, none⟩ = some (.int .i64 3) := BT.out.m.k1.trans (by rw [hk])
      cases qi : rightI m.i.1 m.i.2
      · simp only [qi] at hi1
        go_upto_region 24 with (first
        | ((with_reducible refine wpList_load_in ?_ ?_ BT.out.m.i ?_); rfl; rfl)
        | ((with_reducible refine wpList_load_bal ?_ ?_ BT.out.m.b1 ?_); rfl; rfl)
        | ((with_reducible refine wpList_load_cm ?_ ?_ BT.out.m.c ?_); rfl; rfl)
        | ((with_reducible refine wpList_load_at wf.a ?_ ?_ BT.out.m.a ?_); rfl; rfl)
        | ((with_reducible refine wpList_load_ce wf.x ?_ ?_ BT.out.m.x ?_); rfl; rfl)
        | ((with_reducible refine wpList_load_de wf.d ?_ ?_ BT.out.m.d ?_); rfl; rfl)
        | ((with_reducible refine wpList_store_li (p := m.i.1) (q := m.i.2) ?_ ?_ BT.out.n ?_); rfl; rfl; intro w3 hn hg; have BT := hide (BT.out.put hn hg); have c0 : w3.cell? ⟨w.heap.size, 0, none⟩ = some (.int .i64 3) := BT.out.m.k1.trans (by rw [hk]); clear hn hg)
        | ((with_reducible refine wpList_store_lb (p := m.b.1) (q := m.b.2) ?_ ?_ BT.out.n ?_); rfl; rfl; intro w3 hn hg; have BT := hide (BT.out.put hn hg); have c0 : w3.cell? ⟨w.heap.size, 0, none⟩ = some (.int .i64 3) := BT.out.m.k1.trans (by rw [hk]); clear hn hg)
        | ((with_reducible refine wpList_store_la (y := m.a) wf.a ?_ ?_ BT.out.n ?_); rfl; rfl; intro w3 hn hg; have BT := hide (BT.out.put hn hg); have c0 : w3.cell? ⟨w.heap.size, 0, none⟩ = some (.int .i64 3) := BT.out.m.k1.trans (by rw [hk]); clear hn hg)
        | ((with_reducible refine wpList_store_lx (y := m.x) wf.x ?_ ?_ BT.out.n ?_); rfl; rfl; intro w3 hn hg; have BT := hide (BT.out.put hn hg); have c0 : w3.cell? ⟨w.heap.size, 0, none⟩ = some (.int .i64 3) := BT.out.m.k1.trans (by rw [hk]); clear hn hg)
        | ((with_reducible refine wpList_store_lz (z := m.z) ?_ ?_ BT.out.n ?_); rfl; rfl; intro w3 hn hg; have BT := hide (BT.out.put hn hg); have c0 : w3.cell? ⟨w.heap.size, 0, none⟩ = some (.int .i64 3) := BT.out.m.k1.trans (by rw [hk]); clear hn hg)
        | ((with_reducible refine wpList_store_ld (y := m.d) wf.d ?_ ?_ BT.out.n ?_); rfl; rfl; intro w3 hn hg; have BT := hide (BT.out.put hn hg); have c0 : w3.cell? ⟨w.heap.size, 0, none⟩ = some (.int .i64 3) := BT.out.m.k1.trans (by rw [hk]); clear hn hg)
        | (go_at_call 55; (with_reducible refine (hi1 _).mono ?_); rintro e w3 ⟨rfl, hb⟩; have BT := hide (BT.out.kept hb); have c0 : w3.cell? ⟨w.heap.size, 0, none⟩ = some (.int .i64 3) := BT.out.m.k1.trans (by rw [hk]); have c50 := BT.out.m.z; clear hb)
        | (go_at_call 38; (with_reducible refine (hi2 _).mono ?_); rintro e w3 ⟨rfl, hb⟩; have BT := hide (BT.out.kept hb); have c0 : w3.cell? ⟨w.heap.size, 0, none⟩ = some (.int .i64 3) := BT.out.m.k1.trans (by rw [hk]); have c50 := BT.out.m.z; clear hb)
        | (go_at_call 39; (with_reducible refine (hi3 _).mono ?_); rintro e w3 ⟨rfl, hb⟩; have BT := hide (BT.out.kept hb); have c0 : w3.cell? ⟨w.heap.size, 0, none⟩ = some (.int .i64 3) := BT.out.m.k1.trans (by rw [hk]); have c50 := BT.out.m.z; clear hb)
        | (go_at_call 40; (with_reducible refine (hi4 _).mono ?_); rintro e w3 ⟨rfl, hb⟩; have BT := hide (BT.out.kept hb); have c0 : w3.cell? ⟨w.heap.size, 0, none⟩ = some (.int .i64 3) := BT.out.m.k1.trans (by rw [hk]); have c50 := BT.out.m.z; clear hb)
        | (go_at_call 13; (with_reducible refine (hi5 _).mono ?_); rintro e w3 ⟨rfl, hb⟩; have BT := hide (BT.out.kept hb); have c0 : w3.cell? ⟨w.heap.size, 0, none⟩ = some (.int .i64 3) := BT.out.m.k1.trans (by rw [hk]); have c50 := BT.out.m.z; clear hb)
        | (go_at_call 56; (with_reducible refine (hi6 _).mono ?_); rintro e w3 ⟨rfl, hb⟩; have BT := hide (BT.out.kept hb); have c0 : w3.cell? ⟨w.heap.size, 0, none⟩ = some (.int .i64 3) := BT.out.m.k1.trans (by rw [hk]); have c50 := BT.out.m.z; clear hb))
        all_goals (go_ret; exact ⟨ret_bool (by rw [rightLt_inst (by simp [nmI, hk]) (by rw [qi]; rfl)]), BT.out.old⟩)
      · simp only [qi] at hi1
        cases qb : rightB m.b.1 m.b.2
        · simp only [qb] at hi2
          go_upto_region 24 with (first
        | ((with_reducible refine wpList_load_in ?_ ?_ BT.out.m.i ?_); rfl; rfl)
        | ((with_reducible refine wpList_load_bal ?_ ?_ BT.out.m.b1 ?_); rfl; rfl)
        | ((with_reducible refine wpList_load_cm ?_ ?_ BT.out.m.c ?_); rfl; rfl)
        | ((with_reducible refine wpList_load_at wf.a ?_ ?_ BT.out.m.a ?_); rfl; rfl)
        | ((with_reducible refine wpList_load_ce wf.x ?_ ?_ BT.out.m.x ?_); rfl; rfl)
        | ((with_reducible refine wpList_load_de wf.d ?_ ?_ BT.out.m.d ?_); rfl; rfl)
        | ((with_reducible refine wpList_store_li (p := m.i.1) (q := m.i.2) ?_ ?_ BT.out.n ?_); rfl; rfl; intro w3 hn hg; have BT := hide (BT.out.put hn hg); have c0 : w3.cell? ⟨w.heap.size, 0, none⟩ = some (.int .i64 3) := BT.out.m.k1.trans (by rw [hk]); clear hn hg)
        | ((with_reducible refine wpList_store_lb (p := m.b.1) (q := m.b.2) ?_ ?_ BT.out.n ?_); rfl; rfl; intro w3 hn hg; have BT := hide (BT.out.put hn hg); have c0 : w3.cell? ⟨w.heap.size, 0, none⟩ = some (.int .i64 3) := BT.out.m.k1.trans (by rw [hk]); clear hn hg)
        | ((with_reducible refine wpList_store_la (y := m.a) wf.a ?_ ?_ BT.out.n ?_); rfl; rfl; intro w3 hn hg; have BT := hide (BT.out.put hn hg); have c0 : w3.cell? ⟨w.heap.size, 0, none⟩ = some (.int .i64 3) := BT.out.m.k1.trans (by rw [hk]); clear hn hg)
        | ((with_reducible refine wpList_store_lx (y := m.x) wf.x ?_ ?_ BT.out.n ?_); rfl; rfl; intro w3 hn hg; have BT := hide (BT.out.put hn hg); have c0 : w3.cell? ⟨w.heap.size, 0, none⟩ = some (.int .i64 3) := BT.out.m.k1.trans (by rw [hk]); clear hn hg)
        | ((with_reducible refine wpList_store_lz (z := m.z) ?_ ?_ BT.out.n ?_); rfl; rfl; intro w3 hn hg; have BT := hide (BT.out.put hn hg); have c0 : w3.cell? ⟨w.heap.size, 0, none⟩ = some (.int .i64 3) := BT.out.m.k1.trans (by rw [hk]); clear hn hg)
        | ((with_reducible refine wpList_store_ld (y := m.d) wf.d ?_ ?_ BT.out.n ?_); rfl; rfl; intro w3 hn hg; have BT := hide (BT.out.put hn hg); have c0 : w3.cell? ⟨w.heap.size, 0, none⟩ = some (.int .i64 3) := BT.out.m.k1.trans (by rw [hk]); clear hn hg)
        | (go_at_call 55; (with_reducible refine (hi1 _).mono ?_); rintro e w3 ⟨rfl, hb⟩; have BT := hide (BT.out.kept hb); have c0 : w3.cell? ⟨w.heap.size, 0, none⟩ = some (.int .i64 3) := BT.out.m.k1.trans (by rw [hk]); have c50 := BT.out.m.z; clear hb)
        | (go_at_call 38; (with_reducible refine (hi2 _).mono ?_); rintro e w3 ⟨rfl, hb⟩; have BT := hide (BT.out.kept hb); have c0 : w3.cell? ⟨w.heap.size, 0, none⟩ = some (.int .i64 3) := BT.out.m.k1.trans (by rw [hk]); have c50 := BT.out.m.z; clear hb)
        | (go_at_call 39; (with_reducible refine (hi3 _).mono ?_); rintro e w3 ⟨rfl, hb⟩; have BT := hide (BT.out.kept hb); have c0 : w3.cell? ⟨w.heap.size, 0, none⟩ = some (.int .i64 3) := BT.out.m.k1.trans (by rw [hk]); have c50 := BT.out.m.z; clear hb)
        | (go_at_call 40; (with_reducible refine (hi4 _).mono ?_); rintro e w3 ⟨rfl, hb⟩; have BT := hide (BT.out.kept hb); have c0 : w3.cell? ⟨w.heap.size, 0, none⟩ = some (.int .i64 3) := BT.out.m.k1.trans (by rw [hk]); have c50 := BT.out.m.z; clear hb)
        | (go_at_call 13; (with_reducible refine (hi5 _).mono ?_); rintro e w3 ⟨rfl, hb⟩; have BT := hide (BT.out.kept hb); have c0 : w3.cell? ⟨w.heap.size, 0, none⟩ = some (.int .i64 3) := BT.out.m.k1.trans (by rw [hk]); have c50 := BT.out.m.z; clear hb)
        | (go_at_call 56; (with_reducible refine (hi6 _).mono ?_); rintro e w3 ⟨rfl, hb⟩; have BT := hide (BT.out.kept hb); have c0 : w3.cell? ⟨w.heap.size, 0, none⟩ = some (.int .i64 3) := BT.out.m.k1.trans (by rw [hk]); have c50 := BT.out.m.z; clear hb))
          all_goals (go_ret; exact ⟨ret_bool (by rw [rightLt_inst (by simp [nmI, hk]) (by rw [qb, Bool.and_false])]), BT.out.old⟩)
        · simp only [qb] at hi2
          go_upto_region 14 with (first
        | ((with_reducible refine wpList_load_in ?_ ?_ BT.out.m.i ?_); rfl; rfl)
        | ((with_reducible refine wpList_load_bal ?_ ?_ BT.out.m.b1 ?_); rfl; rfl)
        | ((with_reducible refine wpList_load_cm ?_ ?_ BT.out.m.c ?_); rfl; rfl)
        | ((with_reducible refine wpList_load_at wf.a ?_ ?_ BT.out.m.a ?_); rfl; rfl)
        | ((with_reducible refine wpList_load_ce wf.x ?_ ?_ BT.out.m.x ?_); rfl; rfl)
        | ((with_reducible refine wpList_load_de wf.d ?_ ?_ BT.out.m.d ?_); rfl; rfl)
        | ((with_reducible refine wpList_store_li (p := m.i.1) (q := m.i.2) ?_ ?_ BT.out.n ?_); rfl; rfl; intro w3 hn hg; have BT := hide (BT.out.put hn hg); have c0 : w3.cell? ⟨w.heap.size, 0, none⟩ = some (.int .i64 3) := BT.out.m.k1.trans (by rw [hk]); clear hn hg)
        | ((with_reducible refine wpList_store_lb (p := m.b.1) (q := m.b.2) ?_ ?_ BT.out.n ?_); rfl; rfl; intro w3 hn hg; have BT := hide (BT.out.put hn hg); have c0 : w3.cell? ⟨w.heap.size, 0, none⟩ = some (.int .i64 3) := BT.out.m.k1.trans (by rw [hk]); clear hn hg)
        | ((with_reducible refine wpList_store_la (y := m.a) wf.a ?_ ?_ BT.out.n ?_); rfl; rfl; intro w3 hn hg; have BT := hide (BT.out.put hn hg); have c0 : w3.cell? ⟨w.heap.size, 0, none⟩ = some (.int .i64 3) := BT.out.m.k1.trans (by rw [hk]); clear hn hg)
        | ((with_reducible refine wpList_store_lx (y := m.x) wf.x ?_ ?_ BT.out.n ?_); rfl; rfl; intro w3 hn hg; have BT := hide (BT.out.put hn hg); have c0 : w3.cell? ⟨w.heap.size, 0, none⟩ = some (.int .i64 3) := BT.out.m.k1.trans (by rw [hk]); clear hn hg)
        | ((with_reducible refine wpList_store_lz (z := m.z) ?_ ?_ BT.out.n ?_); rfl; rfl; intro w3 hn hg; have BT := hide (BT.out.put hn hg); have c0 : w3.cell? ⟨w.heap.size, 0, none⟩ = some (.int .i64 3) := BT.out.m.k1.trans (by rw [hk]); clear hn hg)
        | ((with_reducible refine wpList_store_ld (y := m.d) wf.d ?_ ?_ BT.out.n ?_); rfl; rfl; intro w3 hn hg; have BT := hide (BT.out.put hn hg); have c0 : w3.cell? ⟨w.heap.size, 0, none⟩ = some (.int .i64 3) := BT.out.m.k1.trans (by rw [hk]); clear hn hg)
        | (go_at_call 55; (with_reducible refine (hi1 _).mono ?_); rintro e w3 ⟨rfl, hb⟩; have BT := hide (BT.out.kept hb); have c0 : w3.cell? ⟨w.heap.size, 0, none⟩ = some (.int .i64 3) := BT.out.m.k1.trans (by rw [hk]); have c50 := BT.out.m.z; clear hb)
        | (go_at_call 38; (with_reducible refine (hi2 _).mono ?_); rintro e w3 ⟨rfl, hb⟩; have BT := hide (BT.out.kept hb); have c0 : w3.cell? ⟨w.heap.size, 0, none⟩ = some (.int .i64 3) := BT.out.m.k1.trans (by rw [hk]); have c50 := BT.out.m.z; clear hb)
        | (go_at_call 39; (with_reducible refine (hi3 _).mono ?_); rintro e w3 ⟨rfl, hb⟩; have BT := hide (BT.out.kept hb); have c0 : w3.cell? ⟨w.heap.size, 0, none⟩ = some (.int .i64 3) := BT.out.m.k1.trans (by rw [hk]); have c50 := BT.out.m.z; clear hb)
        | (go_at_call 40; (with_reducible refine (hi4 _).mono ?_); rintro e w3 ⟨rfl, hb⟩; have BT := hide (BT.out.kept hb); have c0 : w3.cell? ⟨w.heap.size, 0, none⟩ = some (.int .i64 3) := BT.out.m.k1.trans (by rw [hk]); have c50 := BT.out.m.z; clear hb)
        | (go_at_call 13; (with_reducible refine (hi5 _).mono ?_); rintro e w3 ⟨rfl, hb⟩; have BT := hide (BT.out.kept hb); have c0 : w3.cell? ⟨w.heap.size, 0, none⟩ = some (.int .i64 3) := BT.out.m.k1.trans (by rw [hk]); have c50 := BT.out.m.z; clear hb)
        | (go_at_call 56; (with_reducible refine (hi6 _).mono ?_); rintro e w3 ⟨rfl, hb⟩; have BT := hide (BT.out.kept hb); have c0 : w3.cell? ⟨w.heap.size, 0, none⟩ = some (.int .i64 3) := BT.out.m.k1.trans (by rw [hk]); have c50 := BT.out.m.z; clear hb))
          have HD := hide (show LAt w3.drew w.heap.size 37 m ∧ Bt w w3.drew m ({ bare0 m.k m.f m.t with i := m.i, b := m.b } : Lt) g from ⟨(BT.out.kept (Below.refl _ _).drew).m, BT.out.kept (Below.refl _ _).drew⟩)
          refine wp_region_noPanic ?_
          refine wp_region_T 7 (fun w' => LAt w' w.heap.size 37 m) (by kernel_rfl) ?_
          clear BT c0
          generalize World.drew _ = wd at HD ⊢
          refine anyT_take (i := 0) (v := ?ov0z3) (by simp only [List.getElem?_toArray, List.getElem?_cons_zero]; exact rfl) (by kernel_rfl) (by kernel_rfl) (fun _ _ _ h => h) (by kernel_rfl) (by kernel_rfl) (Or.inl ⟨by rfl, ?oy0z3⟩) (by with_reducible exact HD.out.1) ?or0z3
          case oy0z3 => (intro w hSw; go_simp; try with_reducible rfl)
          try simp only [Act.put, List.setIfInBounds_toArray, List.set_cons_zero, List.set_cons_succ]
          refine anyT_take (i := 1) (v := .agg #[.int .i64 m.c.k, .int .i64 m.c.c, .int .i64 m.c.q, .string m.c.key, .string m.c.en, .string m.c.old, .string m.c.val]) (by simp only [List.getElem?_toArray, List.getElem?_cons_succ, List.getElem?_cons_zero]; exact rfl) (by kernel_rfl) (by kernel_rfl) (fun _ _ _ h => h) (by kernel_rfl) (by kernel_rfl) (Or.inl ⟨by rfl, fun w hSw => exec_load_g rfl rfl hSw.c cm_under rfl cm_info⟩) (by with_reducible exact HD.out.1) ?_
          try simp only [Act.put, List.setIfInBounds_toArray, List.set_cons_zero, List.set_cons_succ]
          refine anyT_take (i := 2) (v := ?ov2z3) (by simp only [List.getElem?_toArray, List.getElem?_cons_succ, List.getElem?_cons_zero]; exact rfl) (by kernel_rfl) (by kernel_rfl) (fun _ _ _ h => h) (by kernel_rfl) (by kernel_rfl) (Or.inl ⟨by rfl, ?oy2z3⟩) (by with_reducible exact HD.out.1) ?or2z3
          case oy2z3 => (intro w hSw; go_simp; try with_reducible rfl)
          try simp only [Act.put, List.setIfInBounds_toArray, List.set_cons_zero, List.set_cons_succ]
          refine anyT_take (i := 3) (v := .agg (cA m.a)) (by simp only [List.getElem?_toArray, List.getElem?_cons_succ, List.getElem?_cons_zero]; exact rfl) (by kernel_rfl) (by kernel_rfl) (fun _ _ _ h => h) (by kernel_rfl) (by kernel_rfl) (Or.inl ⟨by rfl, fun w hSw => exec_load_g rfl rfl hSw.a at_under rfl (by rw [length_cellsR, wf.a]; exact at_info)⟩) (by with_reducible exact HD.out.1) ?_
          try simp only [Act.put, List.setIfInBounds_toArray, List.set_cons_zero, List.set_cons_succ]
          refine anyT_take (i := 4) (v := ?ov4z3) (by simp only [List.getElem?_toArray, List.getElem?_cons_succ, List.getElem?_cons_zero]; exact rfl) (by kernel_rfl) (by kernel_rfl) (fun _ _ _ h => h) (by kernel_rfl) (by kernel_rfl) (Or.inl ⟨by rfl, ?oy4z3⟩) (by with_reducible exact HD.out.1) ?or4z3
          case oy4z3 => (intro w hSw; go_simp; try with_reducible rfl)
          try simp only [Act.put, List.setIfInBounds_toArray, List.set_cons_zero, List.set_cons_succ]
          refine anyT_one (i := 5) (by kernel_rfl) (by simp only [List.getElem?_toArray, List.getElem?_cons_succ, List.getElem?_cons_zero]; exact rfl) (fun K hK => ?_)
          refine wp_store_lc (y := m.c) rfl rfl rfl HD.out.2.n fun w5 hn hg => ?_
          have HD := hide (show LAt w5 w.heap.size 37 m ∧ Bt w w5 m { ({ bare0 m.k m.f m.t with i := m.i, b := m.b } : Lt) with c := m.c } g from ⟨(HD.out.2.put hn hg).m, HD.out.2.put hn hg⟩)
          refine hK.out _ _ (fun _ => HD.out.1) ?_
          clear hK K hn hg
          try simp only [Act.put]
          refine anyT_take (i := 6) (v := ?ov6z3) (by simp only [List.getElem?_toArray, List.getElem?_cons_succ, List.getElem?_cons_zero]; exact rfl) (by kernel_rfl) (by kernel_rfl) (fun _ _ _ h => h) (by kernel_rfl) (by kernel_rfl) (Or.inl ⟨by rfl, ?oy6z3⟩) (by with_reducible exact HD.out.1) ?or6z3
          case oy6z3 => (intro w hSw; go_simp; try with_reducible rfl)
          try simp only [Act.put, List.setIfInBounds_toArray, List.set_cons_zero, List.set_cons_succ]
          refine anyT_one (i := 7) (by kernel_rfl) (by simp only [List.getElem?_toArray, List.getElem?_cons_succ, List.getElem?_cons_zero]; exact rfl) (fun K hK => ?_)
          refine wp_store_la (y := m.a) wf.a rfl rfl rfl HD.out.2.n fun w3 hn hg => ?_
          have BT := hide (show Bt w w3 m { ({ ({ bare0 m.k m.f m.t with i := m.i, b := m.b } : Lt) with c := m.c } : Lt) with a := m.a } g from HD.out.2.put hn hg)
          have c0 : w3.cell? ⟨w.heap.size, 0, none⟩ = some (.int .i64 3) := BT.out.m.k1.trans (by rw [hk])
          refine hK.out _ _ (fun e => absurd rfl e) ?_
          clear hK K hn hg HD
          refine anyT_done (by kernel_rfl) ?_
          refine NoPanic.normal ?_
          try simp only [Act.put]
          go_upto_region 24 with (first
        | ((with_reducible refine wpList_load_in ?_ ?_ BT.out.m.i ?_); rfl; rfl)
        | ((with_reducible refine wpList_load_bal ?_ ?_ BT.out.m.b1 ?_); rfl; rfl)
        | ((with_reducible refine wpList_load_cm ?_ ?_ BT.out.m.c ?_); rfl; rfl)
        | ((with_reducible refine wpList_load_at wf.a ?_ ?_ BT.out.m.a ?_); rfl; rfl)
        | ((with_reducible refine wpList_load_ce wf.x ?_ ?_ BT.out.m.x ?_); rfl; rfl)
        | ((with_reducible refine wpList_load_de wf.d ?_ ?_ BT.out.m.d ?_); rfl; rfl)
        | ((with_reducible refine wpList_store_li (p := m.i.1) (q := m.i.2) ?_ ?_ BT.out.n ?_); rfl; rfl; intro w3 hn hg; have BT := hide (BT.out.put hn hg); have c0 : w3.cell? ⟨w.heap.size, 0, none⟩ = some (.int .i64 3) := BT.out.m.k1.trans (by rw [hk]); clear hn hg)
        | ((with_reducible refine wpList_store_lb (p := m.b.1) (q := m.b.2) ?_ ?_ BT.out.n ?_); rfl; rfl; intro w3 hn hg; have BT := hide (BT.out.put hn hg); have c0 : w3.cell? ⟨w.heap.size, 0, none⟩ = some (.int .i64 3) := BT.out.m.k1.trans (by rw [hk]); clear hn hg)
        | ((with_reducible refine wpList_store_la (y := m.a) wf.a ?_ ?_ BT.out.n ?_); rfl; rfl; intro w3 hn hg; have BT := hide (BT.out.put hn hg); have c0 : w3.cell? ⟨w.heap.size, 0, none⟩ = some (.int .i64 3) := BT.out.m.k1.trans (by rw [hk]); clear hn hg)
        | ((with_reducible refine wpList_store_lx (y := m.x) wf.x ?_ ?_ BT.out.n ?_); rfl; rfl; intro w3 hn hg; have BT := hide (BT.out.put hn hg); have c0 : w3.cell? ⟨w.heap.size, 0, none⟩ = some (.int .i64 3) := BT.out.m.k1.trans (by rw [hk]); clear hn hg)
        | ((with_reducible refine wpList_store_lz (z := m.z) ?_ ?_ BT.out.n ?_); rfl; rfl; intro w3 hn hg; have BT := hide (BT.out.put hn hg); have c0 : w3.cell? ⟨w.heap.size, 0, none⟩ = some (.int .i64 3) := BT.out.m.k1.trans (by rw [hk]); clear hn hg)
        | ((with_reducible refine wpList_store_ld (y := m.d) wf.d ?_ ?_ BT.out.n ?_); rfl; rfl; intro w3 hn hg; have BT := hide (BT.out.put hn hg); have c0 : w3.cell? ⟨w.heap.size, 0, none⟩ = some (.int .i64 3) := BT.out.m.k1.trans (by rw [hk]); clear hn hg)
        | (go_at_call 55; (with_reducible refine (hi1 _).mono ?_); rintro e w3 ⟨rfl, hb⟩; have BT := hide (BT.out.kept hb); have c0 : w3.cell? ⟨w.heap.size, 0, none⟩ = some (.int .i64 3) := BT.out.m.k1.trans (by rw [hk]); have c50 := BT.out.m.z; clear hb)
        | (go_at_call 38; (with_reducible refine (hi2 _).mono ?_); rintro e w3 ⟨rfl, hb⟩; have BT := hide (BT.out.kept hb); have c0 : w3.cell? ⟨w.heap.size, 0, none⟩ = some (.int .i64 3) := BT.out.m.k1.trans (by rw [hk]); have c50 := BT.out.m.z; clear hb)
        | (go_at_call 39; (with_reducible refine (hi3 _).mono ?_); rintro e w3 ⟨rfl, hb⟩; have BT := hide (BT.out.kept hb); have c0 : w3.cell? ⟨w.heap.size, 0, none⟩ = some (.int .i64 3) := BT.out.m.k1.trans (by rw [hk]); have c50 := BT.out.m.z; clear hb)
        | (go_at_call 40; (with_reducible refine (hi4 _).mono ?_); rintro e w3 ⟨rfl, hb⟩; have BT := hide (BT.out.kept hb); have c0 : w3.cell? ⟨w.heap.size, 0, none⟩ = some (.int .i64 3) := BT.out.m.k1.trans (by rw [hk]); have c50 := BT.out.m.z; clear hb)
        | (go_at_call 13; (with_reducible refine (hi5 _).mono ?_); rintro e w3 ⟨rfl, hb⟩; have BT := hide (BT.out.kept hb); have c0 : w3.cell? ⟨w.heap.size, 0, none⟩ = some (.int .i64 3) := BT.out.m.k1.trans (by rw [hk]); have c50 := BT.out.m.z; clear hb)
        | (go_at_call 56; (with_reducible refine (hi6 _).mono ?_); rintro e w3 ⟨rfl, hb⟩; have BT := hide (BT.out.kept hb); have c0 : w3.cell? ⟨w.heap.size, 0, none⟩ = some (.int .i64 3) := BT.out.m.k1.trans (by rw [hk]); have c50 := BT.out.m.z; clear hb))
          have e : ({ bare0 m.k m.f m.t with i := m.i, b := m.b, c := m.c, a := m.a } : Lt) = bareL m := by simp [bareL, bare0, nmI, nmB, nmC, nmA, nmX, nmD, nmZ, hk]
          have BT := hide (show Bt w w3 m (bareL m) g by rw [← e]; exact BT.out)
          clear e
          have heq := fun w => eql_letter BT.out.m.wf BT.out.n.wf w
          have c50 := BT.out.m.z
          go_wp2_with (first
        | ((with_reducible refine wpList_load_in ?_ ?_ BT.out.m.i ?_); rfl; rfl)
        | ((with_reducible refine wpList_load_bal ?_ ?_ BT.out.m.b1 ?_); rfl; rfl)
        | ((with_reducible refine wpList_load_cm ?_ ?_ BT.out.m.c ?_); rfl; rfl)
        | ((with_reducible refine wpList_load_at wf.a ?_ ?_ BT.out.m.a ?_); rfl; rfl)
        | ((with_reducible refine wpList_load_ce wf.x ?_ ?_ BT.out.m.x ?_); rfl; rfl)
        | ((with_reducible refine wpList_load_de wf.d ?_ ?_ BT.out.m.d ?_); rfl; rfl)
        | ((with_reducible refine wpList_store_li (p := m.i.1) (q := m.i.2) ?_ ?_ BT.out.n ?_); rfl; rfl; intro w3 hn hg; have BT := hide (BT.out.put hn hg); have c0 : w3.cell? ⟨w.heap.size, 0, none⟩ = some (.int .i64 3) := BT.out.m.k1.trans (by rw [hk]); clear hn hg)
        | ((with_reducible refine wpList_store_lb (p := m.b.1) (q := m.b.2) ?_ ?_ BT.out.n ?_); rfl; rfl; intro w3 hn hg; have BT := hide (BT.out.put hn hg); have c0 : w3.cell? ⟨w.heap.size, 0, none⟩ = some (.int .i64 3) := BT.out.m.k1.trans (by rw [hk]); clear hn hg)
        | ((with_reducible refine wpList_store_la (y := m.a) wf.a ?_ ?_ BT.out.n ?_); rfl; rfl; intro w3 hn hg; have BT := hide (BT.out.put hn hg); have c0 : w3.cell? ⟨w.heap.size, 0, none⟩ = some (.int .i64 3) := BT.out.m.k1.trans (by rw [hk]); clear hn hg)
        | ((with_reducible refine wpList_store_lx (y := m.x) wf.x ?_ ?_ BT.out.n ?_); rfl; rfl; intro w3 hn hg; have BT := hide (BT.out.put hn hg); have c0 : w3.cell? ⟨w.heap.size, 0, none⟩ = some (.int .i64 3) := BT.out.m.k1.trans (by rw [hk]); clear hn hg)
        | ((with_reducible refine wpList_store_lz (z := m.z) ?_ ?_ BT.out.n ?_); rfl; rfl; intro w3 hn hg; have BT := hide (BT.out.put hn hg); have c0 : w3.cell? ⟨w.heap.size, 0, none⟩ = some (.int .i64 3) := BT.out.m.k1.trans (by rw [hk]); clear hn hg)
        | ((with_reducible refine wpList_store_ld (y := m.d) wf.d ?_ ?_ BT.out.n ?_); rfl; rfl; intro w3 hn hg; have BT := hide (BT.out.put hn hg); have c0 : w3.cell? ⟨w.heap.size, 0, none⟩ = some (.int .i64 3) := BT.out.m.k1.trans (by rw [hk]); clear hn hg)
        | (go_at_call 55; (with_reducible refine (hi1 _).mono ?_); rintro e w3 ⟨rfl, hb⟩; have BT := hide (BT.out.kept hb); have c0 : w3.cell? ⟨w.heap.size, 0, none⟩ = some (.int .i64 3) := BT.out.m.k1.trans (by rw [hk]); have c50 := BT.out.m.z; clear hb)
        | (go_at_call 38; (with_reducible refine (hi2 _).mono ?_); rintro e w3 ⟨rfl, hb⟩; have BT := hide (BT.out.kept hb); have c0 : w3.cell? ⟨w.heap.size, 0, none⟩ = some (.int .i64 3) := BT.out.m.k1.trans (by rw [hk]); have c50 := BT.out.m.z; clear hb)
        | (go_at_call 39; (with_reducible refine (hi3 _).mono ?_); rintro e w3 ⟨rfl, hb⟩; have BT := hide (BT.out.kept hb); have c0 : w3.cell? ⟨w.heap.size, 0, none⟩ = some (.int .i64 3) := BT.out.m.k1.trans (by rw [hk]); have c50 := BT.out.m.z; clear hb)
        | (go_at_call 40; (with_reducible refine (hi4 _).mono ?_); rintro e w3 ⟨rfl, hb⟩; have BT := hide (BT.out.kept hb); have c0 : w3.cell? ⟨w.heap.size, 0, none⟩ = some (.int .i64 3) := BT.out.m.k1.trans (by rw [hk]); have c50 := BT.out.m.z; clear hb)
        | (go_at_call 13; (with_reducible refine (hi5 _).mono ?_); rintro e w3 ⟨rfl, hb⟩; have BT := hide (BT.out.kept hb); have c0 : w3.cell? ⟨w.heap.size, 0, none⟩ = some (.int .i64 3) := BT.out.m.k1.trans (by rw [hk]); have c50 := BT.out.m.z; clear hb)
        | (go_at_call 56; (with_reducible refine (hi6 _).mono ?_); rintro e w3 ⟨rfl, hb⟩; have BT := hide (BT.out.kept hb); have c0 : w3.cell? ⟨w.heap.size, 0, none⟩ = some (.int .i64 3) := BT.out.m.k1.trans (by rw [hk]); have c50 := BT.out.m.z; clear hb)
        | ((with_reducible refine wpList_load_lt BT.out.m.wf ?_ ?_ BT.out.m.all ?_); rfl; rfl)
        | ((with_reducible refine wpList_load_lt BT.out.n.wf ?_ ?_ BT.out.n.all ?_); rfl; rfl))
          all_goals (go_ret; refine ⟨ret_bool ?_, BT.out.old⟩; rw [rightLt_tail HC.out (fun _ => by rw [qi, qb]; rfl)]; clear hi1 hi2 hi3 hi4 hi5 hi6 heq c50; first | (simp [*]; done) | (simp [*]; omega))
    · have c0 : w2.cell? ⟨w.heap.size, 0, none⟩ = some (.int .i64 4) := BT.out.m.k1.trans (by rw [hk])
      cases qi : rightI m.i.1 m.i.2
      · simp only [qi] at hi1
        go_upto_region 24 with (first
        | ((with_reducible refine wpList_load_in ?_ ?_ BT.out.m.i ?_); rfl; rfl)
        | ((with_reducible refine wpList_load_bal ?_ ?_ BT.out.m.b1 ?_); rfl; rfl)
        | ((with_reducible refine wpList_load_cm ?_ ?_ BT.out.m.c ?_); rfl; rfl)
        | ((with_reducible refine wpList_load_at wf.a ?_ ?_ BT.out.m.a ?_); rfl; rfl)
        | ((with_reducible refine wpList_load_ce wf.x ?_ ?_ BT.out.m.x ?_); rfl; rfl)
        | ((with_reducible refine wpList_load_de wf.d ?_ ?_ BT.out.m.d ?_); rfl; rfl)
        | ((with_reducible refine wpList_store_li (p := m.i.1) (q := m.i.2) ?_ ?_ BT.out.n ?_); rfl; rfl; intro w3 hn hg; have BT := hide (BT.out.put hn hg); have c0 : w3.cell? ⟨w.heap.size, 0, none⟩ = some (.int .i64 4) := BT.out.m.k1.trans (by rw [hk]); clear hn hg)
        | ((with_reducible refine wpList_store_lb (p := m.b.1) (q := m.b.2) ?_ ?_ BT.out.n ?_); rfl; rfl; intro w3 hn hg; have BT := hide (BT.out.put hn hg); have c0 : w3.cell? ⟨w.heap.size, 0, none⟩ = some (.int .i64 4) := BT.out.m.k1.trans (by rw [hk]); clear hn hg)
        | ((with_reducible refine wpList_store_la (y := m.a) wf.a ?_ ?_ BT.out.n ?_); rfl; rfl; intro w3 hn hg; have BT := hide (BT.out.put hn hg); have c0 : w3.cell? ⟨w.heap.size, 0, none⟩ = some (.int .i64 4) := BT.out.m.k1.trans (by rw [hk]); clear hn hg)
        | ((with_reducible refine wpList_store_lx (y := m.x) wf.x ?_ ?_ BT.out.n ?_); rfl; rfl; intro w3 hn hg; have BT := hide (BT.out.put hn hg); have c0 : w3.cell? ⟨w.heap.size, 0, none⟩ = some (.int .i64 4) := BT.out.m.k1.trans (by rw [hk]); clear hn hg)
        | ((with_reducible refine wpList_store_lz (z := m.z) ?_ ?_ BT.out.n ?_); rfl; rfl; intro w3 hn hg; have BT := hide (BT.out.put hn hg); have c0 : w3.cell? ⟨w.heap.size, 0, none⟩ = some (.int .i64 4) := BT.out.m.k1.trans (by rw [hk]); clear hn hg)
        | ((with_reducible refine wpList_store_ld (y := m.d) wf.d ?_ ?_ BT.out.n ?_); rfl; rfl; intro w3 hn hg; have BT := hide (BT.out.put hn hg); have c0 : w3.cell? ⟨w.heap.size, 0, none⟩ = some (.int .i64 4) := BT.out.m.k1.trans (by rw [hk]); clear hn hg)
        | (go_at_call 55; (with_reducible refine (hi1 _).mono ?_); rintro e w3 ⟨rfl, hb⟩; have BT := hide (BT.out.kept hb); have c0 : w3.cell? ⟨w.heap.size, 0, none⟩ = some (.int .i64 4) := BT.out.m.k1.trans (by rw [hk]); have c50 := BT.out.m.z; clear hb)
        | (go_at_call 38; (with_reducible refine (hi2 _).mono ?_); rintro e w3 ⟨rfl, hb⟩; have BT := hide (BT.out.kept hb); have c0 : w3.cell? ⟨w.heap.size, 0, none⟩ = some (.int .i64 4) := BT.out.m.k1.trans (by rw [hk]); have c50 := BT.out.m.z; clear hb)
        | (go_at_call 39; (with_reducible refine (hi3 _).mono ?_); rintro e w3 ⟨rfl, hb⟩; have BT := hide (BT.out.kept hb); have c0 : w3.cell? ⟨w.heap.size, 0, none⟩ = some (.int .i64 4) := BT.out.m.k1.trans (by rw [hk]); have c50 := BT.out.m.z; clear hb)
        | (go_at_call 40; (with_reducible refine (hi4 _).mono ?_); rintro e w3 ⟨rfl, hb⟩; have BT := hide (BT.out.kept hb); have c0 : w3.cell? ⟨w.heap.size, 0, none⟩ = some (.int .i64 4) := BT.out.m.k1.trans (by rw [hk]); have c50 := BT.out.m.z; clear hb)
        | (go_at_call 13; (with_reducible refine (hi5 _).mono ?_); rintro e w3 ⟨rfl, hb⟩; have BT := hide (BT.out.kept hb); have c0 : w3.cell? ⟨w.heap.size, 0, none⟩ = some (.int .i64 4) := BT.out.m.k1.trans (by rw [hk]); have c50 := BT.out.m.z; clear hb)
        | (go_at_call 56; (with_reducible refine (hi6 _).mono ?_); rintro e w3 ⟨rfl, hb⟩; have BT := hide (BT.out.kept hb); have c0 : w3.cell? ⟨w.heap.size, 0, none⟩ = some (.int .i64 4) := BT.out.m.k1.trans (by rw [hk]); have c50 := BT.out.m.z; clear hb))
        all_goals (go_ret; exact ⟨ret_bool (by rw [rightLt_inst (by simp [nmI, hk]) (by rw [qi]; rfl)]), BT.out.old⟩)
      · simp only [qi] at hi1
        cases qb : rightB m.b.1 m.b.2
        · simp only [qb] at hi2
          go_upto_region 24 with (first
        | ((with_reducible refine wpList_load_in ?_ ?_ BT.out.m.i ?_); rfl; rfl)
        | ((with_reducible refine wpList_load_bal ?_ ?_ BT.out.m.b1 ?_); rfl; rfl)
        | ((with_reducible refine wpList_load_cm ?_ ?_ BT.out.m.c ?_); rfl; rfl)
        | ((with_reducible refine wpList_load_at wf.a ?_ ?_ BT.out.m.a ?_); rfl; rfl)
        | ((with_reducible refine wpList_load_ce wf.x ?_ ?_ BT.out.m.x ?_); rfl; rfl)
        | ((with_reducible refine wpList_load_de wf.d ?_ ?_ BT.out.m.d ?_); rfl; rfl)
        | ((with_reducible refine wpList_store_li (p := m.i.1) (q := m.i.2) ?_ ?_ BT.out.n ?_); rfl; rfl; intro w3 hn hg; have BT := hide (BT.out.put hn hg); have c0 : w3.cell? ⟨w.heap.size, 0, none⟩ = some (.int .i64 4) := BT.out.m.k1.trans (by rw [hk]); clear hn hg)
        | ((with_reducible refine wpList_store_lb (p := m.b.1) (q := m.b.2) ?_ ?_ BT.out.n ?_); rfl; rfl; intro w3 hn hg; have BT := hide (BT.out.put hn hg); have c0 : w3.cell? ⟨w.heap.size, 0, none⟩ = some (.int .i64 4) := BT.out.m.k1.trans (by rw [hk]); clear hn hg)
        | ((with_reducible refine wpList_store_la (y := m.a) wf.a ?_ ?_ BT.out.n ?_); rfl; rfl; intro w3 hn hg; have BT := hide (BT.out.put hn hg); have c0 : w3.cell? ⟨w.heap.size, 0, none⟩ = some (.int .i64 4) := BT.out.m.k1.trans (by rw [hk]); clear hn hg)
        | ((with_reducible refine wpList_store_lx (y := m.x) wf.x ?_ ?_ BT.out.n ?_); rfl; rfl; intro w3 hn hg; have BT := hide (BT.out.put hn hg); have c0 : w3.cell? ⟨w.heap.size, 0, none⟩ = some (.int .i64 4) := BT.out.m.k1.trans (by rw [hk]); clear hn hg)
        | ((with_reducible refine wpList_store_lz (z := m.z) ?_ ?_ BT.out.n ?_); rfl; rfl; intro w3 hn hg; have BT := hide (BT.out.put hn hg); have c0 : w3.cell? ⟨w.heap.size, 0, none⟩ = some (.int .i64 4) := BT.out.m.k1.trans (by rw [hk]); clear hn hg)
        | ((with_reducible refine wpList_store_ld (y := m.d) wf.d ?_ ?_ BT.out.n ?_); rfl; rfl; intro w3 hn hg; have BT := hide (BT.out.put hn hg); have c0 : w3.cell? ⟨w.heap.size, 0, none⟩ = some (.int .i64 4) := BT.out.m.k1.trans (by rw [hk]); clear hn hg)
        | (go_at_call 55; (with_reducible refine (hi1 _).mono ?_); rintro e w3 ⟨rfl, hb⟩; have BT := hide (BT.out.kept hb); have c0 : w3.cell? ⟨w.heap.size, 0, none⟩ = some (.int .i64 4) := BT.out.m.k1.trans (by rw [hk]); have c50 := BT.out.m.z; clear hb)
        | (go_at_call 38; (with_reducible refine (hi2 _).mono ?_); rintro e w3 ⟨rfl, hb⟩; have BT := hide (BT.out.kept hb); have c0 : w3.cell? ⟨w.heap.size, 0, none⟩ = some (.int .i64 4) := BT.out.m.k1.trans (by rw [hk]); have c50 := BT.out.m.z; clear hb)
        | (go_at_call 39; (with_reducible refine (hi3 _).mono ?_); rintro e w3 ⟨rfl, hb⟩; have BT := hide (BT.out.kept hb); have c0 : w3.cell? ⟨w.heap.size, 0, none⟩ = some (.int .i64 4) := BT.out.m.k1.trans (by rw [hk]); have c50 := BT.out.m.z; clear hb)
        | (go_at_call 40; (with_reducible refine (hi4 _).mono ?_); rintro e w3 ⟨rfl, hb⟩; have BT := hide (BT.out.kept hb); have c0 : w3.cell? ⟨w.heap.size, 0, none⟩ = some (.int .i64 4) := BT.out.m.k1.trans (by rw [hk]); have c50 := BT.out.m.z; clear hb)
        | (go_at_call 13; (with_reducible refine (hi5 _).mono ?_); rintro e w3 ⟨rfl, hb⟩; have BT := hide (BT.out.kept hb); have c0 : w3.cell? ⟨w.heap.size, 0, none⟩ = some (.int .i64 4) := BT.out.m.k1.trans (by rw [hk]); have c50 := BT.out.m.z; clear hb)
        | (go_at_call 56; (with_reducible refine (hi6 _).mono ?_); rintro e w3 ⟨rfl, hb⟩; have BT := hide (BT.out.kept hb); have c0 : w3.cell? ⟨w.heap.size, 0, none⟩ = some (.int .i64 4) := BT.out.m.k1.trans (by rw [hk]); have c50 := BT.out.m.z; clear hb))
          all_goals (go_ret; exact ⟨ret_bool (by rw [rightLt_inst (by simp [nmI, hk]) (by rw [qb, Bool.and_false])]), BT.out.old⟩)
        · simp only [qb] at hi2
          go_upto_region 24 with (first
        | ((with_reducible refine wpList_load_in ?_ ?_ BT.out.m.i ?_); rfl; rfl)
        | ((with_reducible refine wpList_load_bal ?_ ?_ BT.out.m.b1 ?_); rfl; rfl)
        | ((with_reducible refine wpList_load_cm ?_ ?_ BT.out.m.c ?_); rfl; rfl)
        | ((with_reducible refine wpList_load_at wf.a ?_ ?_ BT.out.m.a ?_); rfl; rfl)
        | ((with_reducible refine wpList_load_ce wf.x ?_ ?_ BT.out.m.x ?_); rfl; rfl)
        | ((with_reducible refine wpList_load_de wf.d ?_ ?_ BT.out.m.d ?_); rfl; rfl)
        | ((with_reducible refine wpList_store_li (p := m.i.1) (q := m.i.2) ?_ ?_ BT.out.n ?_); rfl; rfl; intro w3 hn hg; have BT := hide (BT.out.put hn hg); have c0 : w3.cell? ⟨w.heap.size, 0, none⟩ = some (.int .i64 4) := BT.out.m.k1.trans (by rw [hk]); clear hn hg)
        | ((with_reducible refine wpList_store_lb (p := m.b.1) (q := m.b.2) ?_ ?_ BT.out.n ?_); rfl; rfl; intro w3 hn hg; have BT := hide (BT.out.put hn hg); have c0 : w3.cell? ⟨w.heap.size, 0, none⟩ = some (.int .i64 4) := BT.out.m.k1.trans (by rw [hk]); clear hn hg)
        | ((with_reducible refine wpList_store_la (y := m.a) wf.a ?_ ?_ BT.out.n ?_); rfl; rfl; intro w3 hn hg; have BT := hide (BT.out.put hn hg); have c0 : w3.cell? ⟨w.heap.size, 0, none⟩ = some (.int .i64 4) := BT.out.m.k1.trans (by rw [hk]); clear hn hg)
        | ((with_reducible refine wpList_store_lx (y := m.x) wf.x ?_ ?_ BT.out.n ?_); rfl; rfl; intro w3 hn hg; have BT := hide (BT.out.put hn hg); have c0 : w3.cell? ⟨w.heap.size, 0, none⟩ = some (.int .i64 4) := BT.out.m.k1.trans (by rw [hk]); clear hn hg)
        | ((with_reducible refine wpList_store_lz (z := m.z) ?_ ?_ BT.out.n ?_); rfl; rfl; intro w3 hn hg; have BT := hide (BT.out.put hn hg); have c0 : w3.cell? ⟨w.heap.size, 0, none⟩ = some (.int .i64 4) := BT.out.m.k1.trans (by rw [hk]); clear hn hg)
        | ((with_reducible refine wpList_store_ld (y := m.d) wf.d ?_ ?_ BT.out.n ?_); rfl; rfl; intro w3 hn hg; have BT := hide (BT.out.put hn hg); have c0 : w3.cell? ⟨w.heap.size, 0, none⟩ = some (.int .i64 4) := BT.out.m.k1.trans (by rw [hk]); clear hn hg)
        | (go_at_call 55; (with_reducible refine (hi1 _).mono ?_); rintro e w3 ⟨rfl, hb⟩; have BT := hide (BT.out.kept hb); have c0 : w3.cell? ⟨w.heap.size, 0, none⟩ = some (.int .i64 4) := BT.out.m.k1.trans (by rw [hk]); have c50 := BT.out.m.z; clear hb)
        | (go_at_call 38; (with_reducible refine (hi2 _).mono ?_); rintro e w3 ⟨rfl, hb⟩; have BT := hide (BT.out.kept hb); have c0 : w3.cell? ⟨w.heap.size, 0, none⟩ = some (.int .i64 4) := BT.out.m.k1.trans (by rw [hk]); have c50 := BT.out.m.z; clear hb)
        | (go_at_call 39; (with_reducible refine (hi3 _).mono ?_); rintro e w3 ⟨rfl, hb⟩; have BT := hide (BT.out.kept hb); have c0 : w3.cell? ⟨w.heap.size, 0, none⟩ = some (.int .i64 4) := BT.out.m.k1.trans (by rw [hk]); have c50 := BT.out.m.z; clear hb)
        | (go_at_call 40; (with_reducible refine (hi4 _).mono ?_); rintro e w3 ⟨rfl, hb⟩; have BT := hide (BT.out.kept hb); have c0 : w3.cell? ⟨w.heap.size, 0, none⟩ = some (.int .i64 4) := BT.out.m.k1.trans (by rw [hk]); have c50 := BT.out.m.z; clear hb)
        | (go_at_call 13; (with_reducible refine (hi5 _).mono ?_); rintro e w3 ⟨rfl, hb⟩; have BT := hide (BT.out.kept hb); have c0 : w3.cell? ⟨w.heap.size, 0, none⟩ = some (.int .i64 4) := BT.out.m.k1.trans (by rw [hk]); have c50 := BT.out.m.z; clear hb)
        | (go_at_call 56; (with_reducible refine (hi6 _).mono ?_); rintro e w3 ⟨rfl, hb⟩; have BT := hide (BT.out.kept hb); have c0 : w3.cell? ⟨w.heap.size, 0, none⟩ = some (.int .i64 4) := BT.out.m.k1.trans (by rw [hk]); have c50 := BT.out.m.z; clear hb))
          have e : ({ bare0 m.k m.f m.t with i := m.i, b := m.b } : Lt) = bareL m := by simp [bareL, bare0, nmI, nmB, nmC, nmA, nmX, nmD, nmZ, hk]
          have BT := hide (show Bt w w3 m (bareL m) g by rw [← e]; exact BT.out)
          clear e
          have heq := fun w => eql_letter BT.out.m.wf BT.out.n.wf w
          have c50 := BT.out.m.z
          go_wp2_with (first
        | ((with_reducible refine wpList_load_in ?_ ?_ BT.out.m.i ?_); rfl; rfl)
        | ((with_reducible refine wpList_load_bal ?_ ?_ BT.out.m.b1 ?_); rfl; rfl)
        | ((with_reducible refine wpList_load_cm ?_ ?_ BT.out.m.c ?_); rfl; rfl)
        | ((with_reducible refine wpList_load_at wf.a ?_ ?_ BT.out.m.a ?_); rfl; rfl)
        | ((with_reducible refine wpList_load_ce wf.x ?_ ?_ BT.out.m.x ?_); rfl; rfl)
        | ((with_reducible refine wpList_load_de wf.d ?_ ?_ BT.out.m.d ?_); rfl; rfl)
        | ((with_reducible refine wpList_store_li (p := m.i.1) (q := m.i.2) ?_ ?_ BT.out.n ?_); rfl; rfl; intro w3 hn hg; have BT := hide (BT.out.put hn hg); have c0 : w3.cell? ⟨w.heap.size, 0, none⟩ = some (.int .i64 4) := BT.out.m.k1.trans (by rw [hk]); clear hn hg)
        | ((with_reducible refine wpList_store_lb (p := m.b.1) (q := m.b.2) ?_ ?_ BT.out.n ?_); rfl; rfl; intro w3 hn hg; have BT := hide (BT.out.put hn hg); have c0 : w3.cell? ⟨w.heap.size, 0, none⟩ = some (.int .i64 4) := BT.out.m.k1.trans (by rw [hk]); clear hn hg)
        | ((with_reducible refine wpList_store_la (y := m.a) wf.a ?_ ?_ BT.out.n ?_); rfl; rfl; intro w3 hn hg; have BT := hide (BT.out.put hn hg); have c0 : w3.cell? ⟨w.heap.size, 0, none⟩ = some (.int .i64 4) := BT.out.m.k1.trans (by rw [hk]); clear hn hg)
        | ((with_reducible refine wpList_store_lx (y := m.x) wf.x ?_ ?_ BT.out.n ?_); rfl; rfl; intro w3 hn hg; have BT := hide (BT.out.put hn hg); have c0 : w3.cell? ⟨w.heap.size, 0, none⟩ = some (.int .i64 4) := BT.out.m.k1.trans (by rw [hk]); clear hn hg)
        | ((with_reducible refine wpList_store_lz (z := m.z) ?_ ?_ BT.out.n ?_); rfl; rfl; intro w3 hn hg; have BT := hide (BT.out.put hn hg); have c0 : w3.cell? ⟨w.heap.size, 0, none⟩ = some (.int .i64 4) := BT.out.m.k1.trans (by rw [hk]); clear hn hg)
        | ((with_reducible refine wpList_store_ld (y := m.d) wf.d ?_ ?_ BT.out.n ?_); rfl; rfl; intro w3 hn hg; have BT := hide (BT.out.put hn hg); have c0 : w3.cell? ⟨w.heap.size, 0, none⟩ = some (.int .i64 4) := BT.out.m.k1.trans (by rw [hk]); clear hn hg)
        | (go_at_call 55; (with_reducible refine (hi1 _).mono ?_); rintro e w3 ⟨rfl, hb⟩; have BT := hide (BT.out.kept hb); have c0 : w3.cell? ⟨w.heap.size, 0, none⟩ = some (.int .i64 4) := BT.out.m.k1.trans (by rw [hk]); have c50 := BT.out.m.z; clear hb)
        | (go_at_call 38; (with_reducible refine (hi2 _).mono ?_); rintro e w3 ⟨rfl, hb⟩; have BT := hide (BT.out.kept hb); have c0 : w3.cell? ⟨w.heap.size, 0, none⟩ = some (.int .i64 4) := BT.out.m.k1.trans (by rw [hk]); have c50 := BT.out.m.z; clear hb)
        | (go_at_call 39; (with_reducible refine (hi3 _).mono ?_); rintro e w3 ⟨rfl, hb⟩; have BT := hide (BT.out.kept hb); have c0 : w3.cell? ⟨w.heap.size, 0, none⟩ = some (.int .i64 4) := BT.out.m.k1.trans (by rw [hk]); have c50 := BT.out.m.z; clear hb)
        | (go_at_call 40; (with_reducible refine (hi4 _).mono ?_); rintro e w3 ⟨rfl, hb⟩; have BT := hide (BT.out.kept hb); have c0 : w3.cell? ⟨w.heap.size, 0, none⟩ = some (.int .i64 4) := BT.out.m.k1.trans (by rw [hk]); have c50 := BT.out.m.z; clear hb)
        | (go_at_call 13; (with_reducible refine (hi5 _).mono ?_); rintro e w3 ⟨rfl, hb⟩; have BT := hide (BT.out.kept hb); have c0 : w3.cell? ⟨w.heap.size, 0, none⟩ = some (.int .i64 4) := BT.out.m.k1.trans (by rw [hk]); have c50 := BT.out.m.z; clear hb)
        | (go_at_call 56; (with_reducible refine (hi6 _).mono ?_); rintro e w3 ⟨rfl, hb⟩; have BT := hide (BT.out.kept hb); have c0 : w3.cell? ⟨w.heap.size, 0, none⟩ = some (.int .i64 4) := BT.out.m.k1.trans (by rw [hk]); have c50 := BT.out.m.z; clear hb)
        | ((with_reducible refine wpList_load_lt BT.out.m.wf ?_ ?_ BT.out.m.all ?_); rfl; rfl)
        | ((with_reducible refine wpList_load_lt BT.out.n.wf ?_ ?_ BT.out.n.all ?_); rfl; rfl))
          all_goals (go_ret; refine ⟨ret_bool ?_, BT.out.old⟩; rw [rightLt_tail HC.out (fun _ => by rw [qi, qb]; rfl)]; clear hi1 hi2 hi3 hi4 hi5 hi6 heq c50; first | (simp [*]; done) | (simp [*]; omega))
    · have c0 : w2.cell? ⟨w.heap.size, 0, none⟩ = some (.int .i64 5) := BT.out.m.k1.trans (by rw [hk])
      cases qi : rightI m.i.1 m.i.2
      · simp only [qi] at hi1
        go_upto_region 24 with (first
        | ((with_reducible refine wpList_load_in ?_ ?_ BT.out.m.i ?_); rfl; rfl)
        | ((with_reducible refine wpList_load_bal ?_ ?_ BT.out.m.b1 ?_); rfl; rfl)
        | ((with_reducible refine wpList_load_cm ?_ ?_ BT.out.m.c ?_); rfl; rfl)
        | ((with_reducible refine wpList_load_at wf.a ?_ ?_ BT.out.m.a ?_); rfl; rfl)
        | ((with_reducible refine wpList_load_ce wf.x ?_ ?_ BT.out.m.x ?_); rfl; rfl)
        | ((with_reducible refine wpList_load_de wf.d ?_ ?_ BT.out.m.d ?_); rfl; rfl)
        | ((with_reducible refine wpList_store_li (p := m.i.1) (q := m.i.2) ?_ ?_ BT.out.n ?_); rfl; rfl; intro w3 hn hg; have BT := hide (BT.out.put hn hg); have c0 : w3.cell? ⟨w.heap.size, 0, none⟩ = some (.int .i64 5) := BT.out.m.k1.trans (by rw [hk]); clear hn hg)
        | ((with_reducible refine wpList_store_lb (p := m.b.1) (q := m.b.2) ?_ ?_ BT.out.n ?_); rfl; rfl; intro w3 hn hg; have BT := hide (BT.out.put hn hg); have c0 : w3.cell? ⟨w.heap.size, 0, none⟩ = some (.int .i64 5) := BT.out.m.k1.trans (by rw [hk]); clear hn hg)
        | ((with_reducible refine wpList_store_la (y := m.a) wf.a ?_ ?_ BT.out.n ?_); rfl; rfl; intro w3 hn hg; have BT := hide (BT.out.put hn hg); have c0 : w3.cell? ⟨w.heap.size, 0, none⟩ = some (.int .i64 5) := BT.out.m.k1.trans (by rw [hk]); clear hn hg)
        | ((with_reducible refine wpList_store_lx (y := m.x) wf.x ?_ ?_ BT.out.n ?_); rfl; rfl; intro w3 hn hg; have BT := hide (BT.out.put hn hg); have c0 : w3.cell? ⟨w.heap.size, 0, none⟩ = some (.int .i64 5) := BT.out.m.k1.trans (by rw [hk]); clear hn hg)
        | ((with_reducible refine wpList_store_lz (z := m.z) ?_ ?_ BT.out.n ?_); rfl; rfl; intro w3 hn hg; have BT := hide (BT.out.put hn hg); have c0 : w3.cell? ⟨w.heap.size, 0, none⟩ = some (.int .i64 5) := BT.out.m.k1.trans (by rw [hk]); clear hn hg)
        | ((with_reducible refine wpList_store_ld (y := m.d) wf.d ?_ ?_ BT.out.n ?_); rfl; rfl; intro w3 hn hg; have BT := hide (BT.out.put hn hg); have c0 : w3.cell? ⟨w.heap.size, 0, none⟩ = some (.int .i64 5) := BT.out.m.k1.trans (by rw [hk]); clear hn hg)
        | (go_at_call 55; (with_reducible refine (hi1 _).mono ?_); rintro e w3 ⟨rfl, hb⟩; have BT := hide (BT.out.kept hb); have c0 : w3.cell? ⟨w.heap.size, 0, none⟩ = some (.int .i64 5) := BT.out.m.k1.trans (by rw [hk]); have c50 := BT.out.m.z; clear hb)
        | (go_at_call 38; (with_reducible refine (hi2 _).mono ?_); rintro e w3 ⟨rfl, hb⟩; have BT := hide (BT.out.kept hb); have c0 : w3.cell? ⟨w.heap.size, 0, none⟩ = some (.int .i64 5) := BT.out.m.k1.trans (by rw [hk]); have c50 := BT.out.m.z; clear hb)
        | (go_at_call 39; (with_reducible refine (hi3 _).mono ?_); rintro e w3 ⟨rfl, hb⟩; have BT := hide (BT.out.kept hb); have c0 : w3.cell? ⟨w.heap.size, 0, none⟩ = some (.int .i64 5) := BT.out.m.k1.trans (by rw [hk]); have c50 := BT.out.m.z; clear hb)
        | (go_at_call 40; (with_reducible refine (hi4 _).mono ?_); rintro e w3 ⟨rfl, hb⟩; have BT := hide (BT.out.kept hb); have c0 : w3.cell? ⟨w.heap.size, 0, none⟩ = some (.int .i64 5) := BT.out.m.k1.trans (by rw [hk]); have c50 := BT.out.m.z; clear hb)
        | (go_at_call 13; (with_reducible refine (hi5 _).mono ?_); rintro e w3 ⟨rfl, hb⟩; have BT := hide (BT.out.kept hb); have c0 : w3.cell? ⟨w.heap.size, 0, none⟩ = some (.int .i64 5) := BT.out.m.k1.trans (by rw [hk]); have c50 := BT.out.m.z; clear hb)
        | (go_at_call 56; (with_reducible refine (hi6 _).mono ?_); rintro e w3 ⟨rfl, hb⟩; have BT := hide (BT.out.kept hb); have c0 : w3.cell? ⟨w.heap.size, 0, none⟩ = some (.int .i64 5) := BT.out.m.k1.trans (by rw [hk]); have c50 := BT.out.m.z; clear hb))
        all_goals (go_ret; exact ⟨ret_bool (by rw [rightLt_inst (by simp [nmI, hk]) (by rw [qi]; rfl)]), BT.out.old⟩)
      · simp only [qi] at hi1
        cases qb : rightB m.b.1 m.b.2
        · simp only [qb] at hi2
          go_upto_region 24 with (first
        | ((with_reducible refine wpList_load_in ?_ ?_ BT.out.m.i ?_); rfl; rfl)
        | ((with_reducible refine wpList_load_bal ?_ ?_ BT.out.m.b1 ?_); rfl; rfl)
        | ((with_reducible refine wpList_load_cm ?_ ?_ BT.out.m.c ?_); rfl; rfl)
        | ((with_reducible refine wpList_load_at wf.a ?_ ?_ BT.out.m.a ?_); rfl; rfl)
        | ((with_reducible refine wpList_load_ce wf.x ?_ ?_ BT.out.m.x ?_); rfl; rfl)
        | ((with_reducible refine wpList_load_de wf.d ?_ ?_ BT.out.m.d ?_); rfl; rfl)
        | ((with_reducible refine wpList_store_li (p := m.i.1) (q := m.i.2) ?_ ?_ BT.out.n ?_); rfl; rfl; intro w3 hn hg; have BT := hide (BT.out.put hn hg); have c0 : w3.cell? ⟨w.heap.size, 0, none⟩ = some (.int .i64 5) := BT.out.m.k1.trans (by rw [hk]); clear hn hg)
        | ((with_reducible refine wpList_store_lb (p := m.b.1) (q := m.b.2) ?_ ?_ BT.out.n ?_); rfl; rfl; intro w3 hn hg; have BT := hide (BT.out.put hn hg); have c0 : w3.cell? ⟨w.heap.size, 0, none⟩ = some (.int .i64 5) := BT.out.m.k1.trans (by rw [hk]); clear hn hg)
        | ((with_reducible refine wpList_store_la (y := m.a) wf.a ?_ ?_ BT.out.n ?_); rfl; rfl; intro w3 hn hg; have BT := hide (BT.out.put hn hg); have c0 : w3.cell? ⟨w.heap.size, 0, none⟩ = some (.int .i64 5) := BT.out.m.k1.trans (by rw [hk]); clear hn hg)
        | ((with_reducible refine wpList_store_lx (y := m.x) wf.x ?_ ?_ BT.out.n ?_); rfl; rfl; intro w3 hn hg; have BT := hide (BT.out.put hn hg); have c0 : w3.cell? ⟨w.heap.size, 0, none⟩ = some (.int .i64 5) := BT.out.m.k1.trans (by rw [hk]); clear hn hg)
        | ((with_reducible refine wpList_store_lz (z := m.z) ?_ ?_ BT.out.n ?_); rfl; rfl; intro w3 hn hg; have BT := hide (BT.out.put hn hg); have c0 : w3.cell? ⟨w.heap.size, 0, none⟩ = some (.int .i64 5) := BT.out.m.k1.trans (by rw [hk]); clear hn hg)
        | ((with_reducible refine wpList_store_ld (y := m.d) wf.d ?_ ?_ BT.out.n ?_); rfl; rfl; intro w3 hn hg; have BT := hide (BT.out.put hn hg); have c0 : w3.cell? ⟨w.heap.size, 0, none⟩ = some (.int .i64 5) := BT.out.m.k1.trans (by rw [hk]); clear hn hg)
        | (go_at_call 55; (with_reducible refine (hi1 _).mono ?_); rintro e w3 ⟨rfl, hb⟩; have BT := hide (BT.out.kept hb); have c0 : w3.cell? ⟨w.heap.size, 0, none⟩ = some (.int .i64 5) := BT.out.m.k1.trans (by rw [hk]); have c50 := BT.out.m.z; clear hb)
        | (go_at_call 38; (with_reducible refine (hi2 _).mono ?_); rintro e w3 ⟨rfl, hb⟩; have BT := hide (BT.out.kept hb); have c0 : w3.cell? ⟨w.heap.size, 0, none⟩ = some (.int .i64 5) := BT.out.m.k1.trans (by rw [hk]); have c50 := BT.out.m.z; clear hb)
        | (go_at_call 39; (with_reducible refine (hi3 _).mono ?_); rintro e w3 ⟨rfl, hb⟩; have BT := hide (BT.out.kept hb); have c0 : w3.cell? ⟨w.heap.size, 0, none⟩ = some (.int .i64 5) := BT.out.m.k1.trans (by rw [hk]); have c50 := BT.out.m.z; clear hb)
        | (go_at_call 40; (with_reducible refine (hi4 _).mono ?_); rintro e w3 ⟨rfl, hb⟩; have BT := hide (BT.out.kept hb); have c0 : w3.cell? ⟨w.heap.size, 0, none⟩ = some (.int .i64 5) := BT.out.m.k1.trans (by rw [hk]); have c50 := BT.out.m.z; clear hb)
        | (go_at_call 13; (with_reducible refine (hi5 _).mono ?_); rintro e w3 ⟨rfl, hb⟩; have BT := hide (BT.out.kept hb); have c0 : w3.cell? ⟨w.heap.size, 0, none⟩ = some (.int .i64 5) := BT.out.m.k1.trans (by rw [hk]); have c50 := BT.out.m.z; clear hb)
        | (go_at_call 56; (with_reducible refine (hi6 _).mono ?_); rintro e w3 ⟨rfl, hb⟩; have BT := hide (BT.out.kept hb); have c0 : w3.cell? ⟨w.heap.size, 0, none⟩ = some (.int .i64 5) := BT.out.m.k1.trans (by rw [hk]); have c50 := BT.out.m.z; clear hb))
          all_goals (go_ret; exact ⟨ret_bool (by rw [rightLt_inst (by simp [nmI, hk]) (by rw [qb, Bool.and_false])]), BT.out.old⟩)
        · simp only [qb] at hi2
          go_upto_region 14 with (first
        | ((with_reducible refine wpList_load_in ?_ ?_ BT.out.m.i ?_); rfl; rfl)
        | ((with_reducible refine wpList_load_bal ?_ ?_ BT.out.m.b1 ?_); rfl; rfl)
        | ((with_reducible refine wpList_load_cm ?_ ?_ BT.out.m.c ?_); rfl; rfl)
        | ((with_reducible refine wpList_load_at wf.a ?_ ?_ BT.out.m.a ?_); rfl; rfl)
        | ((with_reducible refine wpList_load_ce wf.x ?_ ?_ BT.out.m.x ?_); rfl; rfl)
        | ((with_reducible refine wpList_load_de wf.d ?_ ?_ BT.out.m.d ?_); rfl; rfl)
        | ((with_reducible refine wpList_store_li (p := m.i.1) (q := m.i.2) ?_ ?_ BT.out.n ?_); rfl; rfl; intro w3 hn hg; have BT := hide (BT.out.put hn hg); have c0 : w3.cell? ⟨w.heap.size, 0, none⟩ = some (.int .i64 5) := BT.out.m.k1.trans (by rw [hk]); clear hn hg)
        | ((with_reducible refine wpList_store_lb (p := m.b.1) (q := m.b.2) ?_ ?_ BT.out.n ?_); rfl; rfl; intro w3 hn hg; have BT := hide (BT.out.put hn hg); have c0 : w3.cell? ⟨w.heap.size, 0, none⟩ = some (.int .i64 5) := BT.out.m.k1.trans (by rw [hk]); clear hn hg)
        | ((with_reducible refine wpList_store_la (y := m.a) wf.a ?_ ?_ BT.out.n ?_); rfl; rfl; intro w3 hn hg; have BT := hide (BT.out.put hn hg); have c0 : w3.cell? ⟨w.heap.size, 0, none⟩ = some (.int .i64 5) := BT.out.m.k1.trans (by rw [hk]); clear hn hg)
        | ((with_reducible refine wpList_store_lx (y := m.x) wf.x ?_ ?_ BT.out.n ?_); rfl; rfl; intro w3 hn hg; have BT := hide (BT.out.put hn hg); have c0 : w3.cell? ⟨w.heap.size, 0, none⟩ = some (.int .i64 5) := BT.out.m.k1.trans (by rw [hk]); clear hn hg)
        | ((with_reducible refine wpList_store_lz (z := m.z) ?_ ?_ BT.out.n ?_); rfl; rfl; intro w3 hn hg; have BT := hide (BT.out.put hn hg); have c0 : w3.cell? ⟨w.heap.size, 0, none⟩ = some (.int .i64 5) := BT.out.m.k1.trans (by rw [hk]); clear hn hg)
        | ((with_reducible refine wpList_store_ld (y := m.d) wf.d ?_ ?_ BT.out.n ?_); rfl; rfl; intro w3 hn hg; have BT := hide (BT.out.put hn hg); have c0 : w3.cell? ⟨w.heap.size, 0, none⟩ = some (.int .i64 5) := BT.out.m.k1.trans (by rw [hk]); clear hn hg)
        | (go_at_call 55; (with_reducible refine (hi1 _).mono ?_); rintro e w3 ⟨rfl, hb⟩; have BT := hide (BT.out.kept hb); have c0 : w3.cell? ⟨w.heap.size, 0, none⟩ = some (.int .i64 5) := BT.out.m.k1.trans (by rw [hk]); have c50 := BT.out.m.z; clear hb)
        | (go_at_call 38; (with_reducible refine (hi2 _).mono ?_); rintro e w3 ⟨rfl, hb⟩; have BT := hide (BT.out.kept hb); have c0 : w3.cell? ⟨w.heap.size, 0, none⟩ = some (.int .i64 5) := BT.out.m.k1.trans (by rw [hk]); have c50 := BT.out.m.z; clear hb)
        | (go_at_call 39; (with_reducible refine (hi3 _).mono ?_); rintro e w3 ⟨rfl, hb⟩; have BT := hide (BT.out.kept hb); have c0 : w3.cell? ⟨w.heap.size, 0, none⟩ = some (.int .i64 5) := BT.out.m.k1.trans (by rw [hk]); have c50 := BT.out.m.z; clear hb)
        | (go_at_call 40; (with_reducible refine (hi4 _).mono ?_); rintro e w3 ⟨rfl, hb⟩; have BT := hide (BT.out.kept hb); have c0 : w3.cell? ⟨w.heap.size, 0, none⟩ = some (.int .i64 5) := BT.out.m.k1.trans (by rw [hk]); have c50 := BT.out.m.z; clear hb)
        | (go_at_call 13; (with_reducible refine (hi5 _).mono ?_); rintro e w3 ⟨rfl, hb⟩; have BT := hide (BT.out.kept hb); have c0 : w3.cell? ⟨w.heap.size, 0, none⟩ = some (.int .i64 5) := BT.out.m.k1.trans (by rw [hk]); have c50 := BT.out.m.z; clear hb)
        | (go_at_call 56; (with_reducible refine (hi6 _).mono ?_); rintro e w3 ⟨rfl, hb⟩; have BT := hide (BT.out.kept hb); have c0 : w3.cell? ⟨w.heap.size, 0, none⟩ = some (.int .i64 5) := BT.out.m.k1.trans (by rw [hk]); have c50 := BT.out.m.z; clear hb))
          have HD := hide (show LAt w3.drew w.heap.size 37 m ∧ Bt w w3.drew m ({ bare0 m.k m.f m.t with i := m.i } : Lt) g from ⟨(BT.out.kept (Below.refl _ _).drew).m, BT.out.kept (Below.refl _ _).drew⟩)
          refine wp_region_noPanic ?_
          refine wp_region_T 7 (fun w' => LAt w' w.heap.size 37 m) (by kernel_rfl) ?_
          clear BT c0
          generalize World.drew _ = wd at HD ⊢
          refine anyT_take (i := 0) (v := ?ov0z5) (by simp only [List.getElem?_toArray, List.getElem?_cons_zero]; exact rfl) (by kernel_rfl) (by kernel_rfl) (fun _ _ _ h => h) (by kernel_rfl) (by kernel_rfl) (Or.inl ⟨by rfl, ?oy0z5⟩) (by with_reducible exact HD.out.1) ?or0z5
          case oy0z5 => (intro w hSw; go_simp; try with_reducible rfl)
          try simp only [Act.put, List.setIfInBounds_toArray, List.set_cons_zero, List.set_cons_succ]
          refine anyT_take (i := 1) (v := .agg #[.int .i64 m.c.k, .int .i64 m.c.c, .int .i64 m.c.q, .string m.c.key, .string m.c.en, .string m.c.old, .string m.c.val]) (by simp only [List.getElem?_toArray, List.getElem?_cons_succ, List.getElem?_cons_zero]; exact rfl) (by kernel_rfl) (by kernel_rfl) (fun _ _ _ h => h) (by kernel_rfl) (by kernel_rfl) (Or.inl ⟨by rfl, fun w hSw => exec_load_g rfl rfl hSw.c cm_under rfl cm_info⟩) (by with_reducible exact HD.out.1) ?_
          try simp only [Act.put, List.setIfInBounds_toArray, List.set_cons_zero, List.set_cons_succ]
          refine anyT_take (i := 2) (v := ?ov2z5) (by simp only [List.getElem?_toArray, List.getElem?_cons_succ, List.getElem?_cons_zero]; exact rfl) (by kernel_rfl) (by kernel_rfl) (fun _ _ _ h => h) (by kernel_rfl) (by kernel_rfl) (Or.inl ⟨by rfl, ?oy2z5⟩) (by with_reducible exact HD.out.1) ?or2z5
          case oy2z5 => (intro w hSw; go_simp; try with_reducible rfl)
          try simp only [Act.put, List.setIfInBounds_toArray, List.set_cons_zero, List.set_cons_succ]
          refine anyT_take (i := 3) (v := .agg (cA m.a)) (by simp only [List.getElem?_toArray, List.getElem?_cons_succ, List.getElem?_cons_zero]; exact rfl) (by kernel_rfl) (by kernel_rfl) (fun _ _ _ h => h) (by kernel_rfl) (by kernel_rfl) (Or.inl ⟨by rfl, fun w hSw => exec_load_g rfl rfl hSw.a at_under rfl (by rw [length_cellsR, wf.a]; exact at_info)⟩) (by with_reducible exact HD.out.1) ?_
          try simp only [Act.put, List.setIfInBounds_toArray, List.set_cons_zero, List.set_cons_succ]
          refine anyT_take (i := 4) (v := ?ov4z5) (by simp only [List.getElem?_toArray, List.getElem?_cons_succ, List.getElem?_cons_zero]; exact rfl) (by kernel_rfl) (by kernel_rfl) (fun _ _ _ h => h) (by kernel_rfl) (by kernel_rfl) (Or.inl ⟨by rfl, ?oy4z5⟩) (by with_reducible exact HD.out.1) ?or4z5
          case oy4z5 => (intro w hSw; go_simp; try with_reducible rfl)
          try simp only [Act.put, List.setIfInBounds_toArray, List.set_cons_zero, List.set_cons_succ]
          refine anyT_one (i := 5) (by kernel_rfl) (by simp only [List.getElem?_toArray, List.getElem?_cons_succ, List.getElem?_cons_zero]; exact rfl) (fun K hK => ?_)
          refine wp_store_lc (y := m.c) rfl rfl rfl HD.out.2.n fun w5 hn hg => ?_
          have HD := hide (show LAt w5 w.heap.size 37 m ∧ Bt w w5 m { ({ bare0 m.k m.f m.t with i := m.i } : Lt) with c := m.c } g from ⟨(HD.out.2.put hn hg).m, HD.out.2.put hn hg⟩)
          refine hK.out _ _ (fun _ => HD.out.1) ?_
          clear hK K hn hg
          try simp only [Act.put]
          refine anyT_take (i := 6) (v := ?ov6z5) (by simp only [List.getElem?_toArray, List.getElem?_cons_succ, List.getElem?_cons_zero]; exact rfl) (by kernel_rfl) (by kernel_rfl) (fun _ _ _ h => h) (by kernel_rfl) (by kernel_rfl) (Or.inl ⟨by rfl, ?oy6z5⟩) (by with_reducible exact HD.out.1) ?or6z5
          case oy6z5 => (intro w hSw; go_simp; try with_reducible rfl)
          try simp only [Act.put, List.setIfInBounds_toArray, List.set_cons_zero, List.set_cons_succ]
          refine anyT_one (i := 7) (by kernel_rfl) (by simp only [List.getElem?_toArray, List.getElem?_cons_succ, List.getElem?_cons_zero]; exact rfl) (fun K hK => ?_)
          refine wp_store_la (y := m.a) wf.a rfl rfl rfl HD.out.2.n fun w3 hn hg => ?_
          have BT := hide (show Bt w w3 m { ({ ({ bare0 m.k m.f m.t with i := m.i } : Lt) with c := m.c } : Lt) with a := m.a } g from HD.out.2.put hn hg)
          have c0 : w3.cell? ⟨w.heap.size, 0, none⟩ = some (.int .i64 5) := BT.out.m.k1.trans (by rw [hk])
          refine hK.out _ _ (fun e => absurd rfl e) ?_
          clear hK K hn hg HD
          refine anyT_done (by kernel_rfl) ?_
          refine NoPanic.normal ?_
          try simp only [Act.put]
          go_upto_region 24 with (first
        | ((with_reducible refine wpList_load_in ?_ ?_ BT.out.m.i ?_); rfl; rfl)
        | ((with_reducible refine wpList_load_bal ?_ ?_ BT.out.m.b1 ?_); rfl; rfl)
        | ((with_reducible refine wpList_load_cm ?_ ?_ BT.out.m.c ?_); rfl; rfl)
        | ((with_reducible refine wpList_load_at wf.a ?_ ?_ BT.out.m.a ?_); rfl; rfl)
        | ((with_reducible refine wpList_load_ce wf.x ?_ ?_ BT.out.m.x ?_); rfl; rfl)
        | ((with_reducible refine wpList_load_de wf.d ?_ ?_ BT.out.m.d ?_); rfl; rfl)
        | ((with_reducible refine wpList_store_li (p := m.i.1) (q := m.i.2) ?_ ?_ BT.out.n ?_); rfl; rfl; intro w3 hn hg; have BT := hide (BT.out.put hn hg); have c0 : w3.cell? ⟨w.heap.size, 0, none⟩ = some (.int .i64 5) := BT.out.m.k1.trans (by rw [hk]); clear hn hg)
        | ((with_reducible refine wpList_store_lb (p := m.b.1) (q := m.b.2) ?_ ?_ BT.out.n ?_); rfl; rfl; intro w3 hn hg; have BT := hide (BT.out.put hn hg); have c0 : w3.cell? ⟨w.heap.size, 0, none⟩ = some (.int .i64 5) := BT.out.m.k1.trans (by rw [hk]); clear hn hg)
        | ((with_reducible refine wpList_store_la (y := m.a) wf.a ?_ ?_ BT.out.n ?_); rfl; rfl; intro w3 hn hg; have BT := hide (BT.out.put hn hg); have c0 : w3.cell? ⟨w.heap.size, 0, none⟩ = some (.int .i64 5) := BT.out.m.k1.trans (by rw [hk]); clear hn hg)
        | ((with_reducible refine wpList_store_lx (y := m.x) wf.x ?_ ?_ BT.out.n ?_); rfl; rfl; intro w3 hn hg; have BT := hide (BT.out.put hn hg); have c0 : w3.cell? ⟨w.heap.size, 0, none⟩ = some (.int .i64 5) := BT.out.m.k1.trans (by rw [hk]); clear hn hg)
        | ((with_reducible refine wpList_store_lz (z := m.z) ?_ ?_ BT.out.n ?_); rfl; rfl; intro w3 hn hg; have BT := hide (BT.out.put hn hg); have c0 : w3.cell? ⟨w.heap.size, 0, none⟩ = some (.int .i64 5) := BT.out.m.k1.trans (by rw [hk]); clear hn hg)
        | ((with_reducible refine wpList_store_ld (y := m.d) wf.d ?_ ?_ BT.out.n ?_); rfl; rfl; intro w3 hn hg; have BT := hide (BT.out.put hn hg); have c0 : w3.cell? ⟨w.heap.size, 0, none⟩ = some (.int .i64 5) := BT.out.m.k1.trans (by rw [hk]); clear hn hg)
        | (go_at_call 55; (with_reducible refine (hi1 _).mono ?_); rintro e w3 ⟨rfl, hb⟩; have BT := hide (BT.out.kept hb); have c0 : w3.cell? ⟨w.heap.size, 0, none⟩ = some (.int .i64 5) := BT.out.m.k1.trans (by rw [hk]); have c50 := BT.out.m.z; clear hb)
        | (go_at_call 38; (with_reducible refine (hi2 _).mono ?_); rintro e w3 ⟨rfl, hb⟩; have BT := hide (BT.out.kept hb); have c0 : w3.cell? ⟨w.heap.size, 0, none⟩ = some (.int .i64 5) := BT.out.m.k1.trans (by rw [hk]); have c50 := BT.out.m.z; clear hb)
        | (go_at_call 39; (with_reducible refine (hi3 _).mono ?_); rintro e w3 ⟨rfl, hb⟩; have BT := hide (BT.out.kept hb); have c0 : w3.cell? ⟨w.heap.size, 0, none⟩ = some (.int .i64 5) := BT.out.m.k1.trans (by rw [hk]); have c50 := BT.out.m.z; clear hb)
        | (go_at_call 40; (with_reducible refine (hi4 _).mono ?_); rintro e w3 ⟨rfl, hb⟩; have BT := hide (BT.out.kept hb); have c0 : w3.cell? ⟨w.heap.size, 0, none⟩ = some (.int .i64 5) := BT.out.m.k1.trans (by rw [hk]); have c50 := BT.out.m.z; clear hb)
        | (go_at_call 13; (with_reducible refine (hi5 _).mono ?_); rintro e w3 ⟨rfl, hb⟩; have BT := hide (BT.out.kept hb); have c0 : w3.cell? ⟨w.heap.size, 0, none⟩ = some (.int .i64 5) := BT.out.m.k1.trans (by rw [hk]); have c50 := BT.out.m.z; clear hb)
        | (go_at_call 56; (with_reducible refine (hi6 _).mono ?_); rintro e w3 ⟨rfl, hb⟩; have BT := hide (BT.out.kept hb); have c0 : w3.cell? ⟨w.heap.size, 0, none⟩ = some (.int .i64 5) := BT.out.m.k1.trans (by rw [hk]); have c50 := BT.out.m.z; clear hb))
          have e : ({ bare0 m.k m.f m.t with i := m.i, c := m.c, a := m.a } : Lt) = bareL m := by simp [bareL, bare0, nmI, nmB, nmC, nmA, nmX, nmD, nmZ, hk]
          have BT := hide (show Bt w w3 m (bareL m) g by rw [← e]; exact BT.out)
          clear e
          have heq := fun w => eql_letter BT.out.m.wf BT.out.n.wf w
          have c50 := BT.out.m.z
          go_wp2_with (first
        | ((with_reducible refine wpList_load_in ?_ ?_ BT.out.m.i ?_); rfl; rfl)
        | ((with_reducible refine wpList_load_bal ?_ ?_ BT.out.m.b1 ?_); rfl; rfl)
        | ((with_reducible refine wpList_load_cm ?_ ?_ BT.out.m.c ?_); rfl; rfl)
        | ((with_reducible refine wpList_load_at wf.a ?_ ?_ BT.out.m.a ?_); rfl; rfl)
        | ((with_reducible refine wpList_load_ce wf.x ?_ ?_ BT.out.m.x ?_); rfl; rfl)
        | ((with_reducible refine wpList_load_de wf.d ?_ ?_ BT.out.m.d ?_); rfl; rfl)
        | ((with_reducible refine wpList_store_li (p := m.i.1) (q := m.i.2) ?_ ?_ BT.out.n ?_); rfl; rfl; intro w3 hn hg; have BT := hide (BT.out.put hn hg); have c0 : w3.cell? ⟨w.heap.size, 0, none⟩ = some (.int .i64 5) := BT.out.m.k1.trans (by rw [hk]); clear hn hg)
        | ((with_reducible refine wpList_store_lb (p := m.b.1) (q := m.b.2) ?_ ?_ BT.out.n ?_); rfl; rfl; intro w3 hn hg; have BT := hide (BT.out.put hn hg); have c0 : w3.cell? ⟨w.heap.size, 0, none⟩ = some (.int .i64 5) := BT.out.m.k1.trans (by rw [hk]); clear hn hg)
        | ((with_reducible refine wpList_store_la (y := m.a) wf.a ?_ ?_ BT.out.n ?_); rfl; rfl; intro w3 hn hg; have BT := hide (BT.out.put hn hg); have c0 : w3.cell? ⟨w.heap.size, 0, none⟩ = some (.int .i64 5) := BT.out.m.k1.trans (by rw [hk]); clear hn hg)
        | ((with_reducible refine wpList_store_lx (y := m.x) wf.x ?_ ?_ BT.out.n ?_); rfl; rfl; intro w3 hn hg; have BT := hide (BT.out.put hn hg); have c0 : w3.cell? ⟨w.heap.size, 0, none⟩ = some (.int .i64 5) := BT.out.m.k1.trans (by rw [hk]); clear hn hg)
        | ((with_reducible refine wpList_store_lz (z := m.z) ?_ ?_ BT.out.n ?_); rfl; rfl; intro w3 hn hg; have BT := hide (BT.out.put hn hg); have c0 : w3.cell? ⟨w.heap.size, 0, none⟩ = some (.int .i64 5) := BT.out.m.k1.trans (by rw [hk]); clear hn hg)
        | ((with_reducible refine wpList_store_ld (y := m.d) wf.d ?_ ?_ BT.out.n ?_); rfl; rfl; intro w3 hn hg; have BT := hide (BT.out.put hn hg); have c0 : w3.cell? ⟨w.heap.size, 0, none⟩ = some (.int .i64 5) := BT.out.m.k1.trans (by rw [hk]); clear hn hg)
        | (go_at_call 55; (with_reducible refine (hi1 _).mono ?_); rintro e w3 ⟨rfl, hb⟩; have BT := hide (BT.out.kept hb); have c0 : w3.cell? ⟨w.heap.size, 0, none⟩ = some (.int .i64 5) := BT.out.m.k1.trans (by rw [hk]); have c50 := BT.out.m.z; clear hb)
        | (go_at_call 38; (with_reducible refine (hi2 _).mono ?_); rintro e w3 ⟨rfl, hb⟩; have BT := hide (BT.out.kept hb); have c0 : w3.cell? ⟨w.heap.size, 0, none⟩ = some (.int .i64 5) := BT.out.m.k1.trans (by rw [hk]); have c50 := BT.out.m.z; clear hb)
        | (go_at_call 39; (with_reducible refine (hi3 _).mono ?_); rintro e w3 ⟨rfl, hb⟩; have BT := hide (BT.out.kept hb); have c0 : w3.cell? ⟨w.heap.size, 0, none⟩ = some (.int .i64 5) := BT.out.m.k1.trans (by rw [hk]); have c50 := BT.out.m.z; clear hb)
        | (go_at_call 40; (with_reducible refine (hi4 _).mono ?_); rintro e w3 ⟨rfl, hb⟩; have BT := hide (BT.out.kept hb); have c0 : w3.cell? ⟨w.heap.size, 0, none⟩ = some (.int .i64 5) := BT.out.m.k1.trans (by rw [hk]); have c50 := BT.out.m.z; clear hb)
        | (go_at_call 13; (with_reducible refine (hi5 _).mono ?_); rintro e w3 ⟨rfl, hb⟩; have BT := hide (BT.out.kept hb); have c0 : w3.cell? ⟨w.heap.size, 0, none⟩ = some (.int .i64 5) := BT.out.m.k1.trans (by rw [hk]); have c50 := BT.out.m.z; clear hb)
        | (go_at_call 56; (with_reducible refine (hi6 _).mono ?_); rintro e w3 ⟨rfl, hb⟩; have BT := hide (BT.out.kept hb); have c0 : w3.cell? ⟨w.heap.size, 0, none⟩ = some (.int .i64 5) := BT.out.m.k1.trans (by rw [hk]); have c50 := BT.out.m.z; clear hb)
        | ((with_reducible refine wpList_load_lt BT.out.m.wf ?_ ?_ BT.out.m.all ?_); rfl; rfl)
        | ((with_reducible refine wpList_load_lt BT.out.n.wf ?_ ?_ BT.out.n.all ?_); rfl; rfl))
          all_goals (go_ret; refine ⟨ret_bool ?_, BT.out.old⟩; rw [rightLt_tail HC.out (fun _ => by rw [qi, qb]; rfl)]; clear hi1 hi2 hi3 hi4 hi5 hi6 heq c50; first | (simp [*]; done) | (simp [*]; omega))
    · have c0 : w2.cell? ⟨w.heap.size, 0, none⟩ = some (.int .i64 6) := BT.out.m.k1.trans (by rw [hk])
      cases qi : rightI m.i.1 m.i.2
      · simp only [qi] at hi1
        go_upto_region 24 with (first
        | ((with_reducible refine wpList_load_in ?_ ?_ BT.out.m.i ?_); rfl; rfl)
        | ((with_reducible refine wpList_load_bal ?_ ?_ BT.out.m.b1 ?_); rfl; rfl)
        | ((with_reducible refine wpList_load_cm ?_ ?_ BT.out.m.c ?_); rfl; rfl)
        | ((with_reducible refine wpList_load_at wf.a ?_ ?_ BT.out.m.a ?_); rfl; rfl)
        | ((with_reducible refine wpList_load_ce wf.x ?_ ?_ BT.out.m.x ?_); rfl; rfl)
        | ((with_reducible refine wpList_load_de wf.d ?_ ?_ BT.out.m.d ?_); rfl; rfl)
        | ((with_reducible refine wpList_store_li (p := m.i.1) (q := m.i.2) ?_ ?_ BT.out.n ?_); rfl; rfl; intro w3 hn hg; have BT := hide (BT.out.put hn hg); have c0 : w3.cell? ⟨w.heap.size, 0, none⟩ = some (.int .i64 6) := BT.out.m.k1.trans (by rw [hk]); clear hn hg)
        | ((with_reducible refine wpList_store_lb (p := m.b.1) (q := m.b.2) ?_ ?_ BT.out.n ?_); rfl; rfl; intro w3 hn hg; have BT := hide (BT.out.put hn hg); have c0 : w3.cell? ⟨w.heap.size, 0, none⟩ = some (.int .i64 6) := BT.out.m.k1.trans (by rw [hk]); clear hn hg)
        | ((with_reducible refine wpList_store_la (y := m.a) wf.a ?_ ?_ BT.out.n ?_); rfl; rfl; intro w3 hn hg; have BT := hide (BT.out.put hn hg); have c0 : w3.cell? ⟨w.heap.size, 0, none⟩ = some (.int .i64 6) := BT.out.m.k1.trans (by rw [hk]); clear hn hg)
        | ((with_reducible refine wpList_store_lx (y := m.x) wf.x ?_ ?_ BT.out.n ?_); rfl; rfl; intro w3 hn hg; have BT := hide (BT.out.put hn hg); have c0 : w3.cell? ⟨w.heap.size, 0, none⟩ = some (.int .i64 6) := BT.out.m.k1.trans (by rw [hk]); clear hn hg)
        | ((with_reducible refine wpList_store_lz (z := m.z) ?_ ?_ BT.out.n ?_); rfl; rfl; intro w3 hn hg; have BT := hide (BT.out.put hn hg); have c0 : w3.cell? ⟨w.heap.size, 0, none⟩ = some (.int .i64 6) := BT.out.m.k1.trans (by rw [hk]); clear hn hg)
        | ((with_reducible refine wpList_store_ld (y := m.d) wf.d ?_ ?_ BT.out.n ?_); rfl; rfl; intro w3 hn hg; have BT := hide (BT.out.put hn hg); have c0 : w3.cell? ⟨w.heap.size, 0, none⟩ = some (.int .i64 6) := BT.out.m.k1.trans (by rw [hk]); clear hn hg)
        | (go_at_call 55; (with_reducible refine (hi1 _).mono ?_); rintro e w3 ⟨rfl, hb⟩; have BT := hide (BT.out.kept hb); have c0 : w3.cell? ⟨w.heap.size, 0, none⟩ = some (.int .i64 6) := BT.out.m.k1.trans (by rw [hk]); have c50 := BT.out.m.z; clear hb)
        | (go_at_call 38; (with_reducible refine (hi2 _).mono ?_); rintro e w3 ⟨rfl, hb⟩; have BT := hide (BT.out.kept hb); have c0 : w3.cell? ⟨w.heap.size, 0, none⟩ = some (.int .i64 6) := BT.out.m.k1.trans (by rw [hk]); have c50 := BT.out.m.z; clear hb)
        | (go_at_call 39; (with_reducible refine (hi3 _).mono ?_); rintro e w3 ⟨rfl, hb⟩; have BT := hide (BT.out.kept hb); have c0 : w3.cell? ⟨w.heap.size, 0, none⟩ = some (.int .i64 6) := BT.out.m.k1.trans (by rw [hk]); have c50 := BT.out.m.z; clear hb)
        | (go_at_call 40; (with_reducible refine (hi4 _).mono ?_); rintro e w3 ⟨rfl, hb⟩; have BT := hide (BT.out.kept hb); have c0 : w3.cell? ⟨w.heap.size, 0, none⟩ = some (.int .i64 6) := BT.out.m.k1.trans (by rw [hk]); have c50 := BT.out.m.z; clear hb)
        | (go_at_call 13; (with_reducible refine (hi5 _).mono ?_); rintro e w3 ⟨rfl, hb⟩; have BT := hide (BT.out.kept hb); have c0 : w3.cell? ⟨w.heap.size, 0, none⟩ = some (.int .i64 6) := BT.out.m.k1.trans (by rw [hk]); have c50 := BT.out.m.z; clear hb)
        | (go_at_call 56; (with_reducible refine (hi6 _).mono ?_); rintro e w3 ⟨rfl, hb⟩; have BT := hide (BT.out.kept hb); have c0 : w3.cell? ⟨w.heap.size, 0, none⟩ = some (.int .i64 6) := BT.out.m.k1.trans (by rw [hk]); have c50 := BT.out.m.z; clear hb))
        all_goals (go_ret; exact ⟨ret_bool (by rw [rightLt_inst (by simp [nmI, hk]) (by rw [qi]; rfl)]), BT.out.old⟩)
      · simp only [qi] at hi1
        cases qb : rightB m.b.1 m.b.2
        · simp only [qb] at hi2
          go_upto_region 24 with (first
        | ((with_reducible refine wpList_load_in ?_ ?_ BT.out.m.i ?_); rfl; rfl)
        | ((with_reducible refine wpList_load_bal ?_ ?_ BT.out.m.b1 ?_); rfl; rfl)
        | ((with_reducible refine wpList_load_cm ?_ ?_ BT.out.m.c ?_); rfl; rfl)
        | ((with_reducible refine wpList_load_at wf.a ?_ ?_ BT.out.m.a ?_); rfl; rfl)
        | ((with_reducible refine wpList_load_ce wf.x ?_ ?_ BT.out.m.x ?_); rfl; rfl)
        | ((with_reducible refine wpList_load_de wf.d ?_ ?_ BT.out.m.d ?_); rfl; rfl)
        | ((with_reducible refine wpList_store_li (p := m.i.1) (q := m.i.2) ?_ ?_ BT.out.n ?_); rfl; rfl; intro w3 hn hg; have BT := hide (BT.out.put hn hg); have c0 : w3.cell? ⟨w.heap.size, 0, none⟩ = some (.int .i64 6) := BT.out.m.k1.trans (by rw [hk]); clear hn hg)
        | ((with_reducible refine wpList_store_lb (p := m.b.1) (q := m.b.2) ?_ ?_ BT.out.n ?_); rfl; rfl; intro w3 hn hg; have BT := hide (BT.out.put hn hg); have c0 : w3.cell? ⟨w.heap.size, 0, none⟩ = some (.int .i64 6) := BT.out.m.k1.trans (by rw [hk]); clear hn hg)
        | ((with_reducible refine wpList_store_la (y := m.a) wf.a ?_ ?_ BT.out.n ?_); rfl; rfl; intro w3 hn hg; have BT := hide (BT.out.put hn hg); have c0 : w3.cell? ⟨w.heap.size, 0, none⟩ = some (.int .i64 6) := BT.out.m.k1.trans (by rw [hk]); clear hn hg)
        | ((with_reducible refine wpList_store_lx (y := m.x) wf.x ?_ ?_ BT.out.n ?_); rfl; rfl; intro w3 hn hg; have BT := hide (BT.out.put hn hg); have c0 : w3.cell? ⟨w.heap.size, 0, none⟩ = some (.int .i64 6) := BT.out.m.k1.trans (by rw [hk]); clear hn hg)
        | ((with_reducible refine wpList_store_lz (z := m.z) ?_ ?_ BT.out.n ?_); rfl; rfl; intro w3 hn hg; have BT := hide (BT.out.put hn hg); have c0 : w3.cell? ⟨w.heap.size, 0, none⟩ = some (.int .i64 6) := BT.out.m.k1.trans (by rw [hk]); clear hn hg)
        | ((with_reducible refine wpList_store_ld (y := m.d) wf.d ?_ ?_ BT.out.n ?_); rfl; rfl; intro w3 hn hg; have BT := hide (BT.out.put hn hg); have c0 : w3.cell? ⟨w.heap.size, 0, none⟩ = some (.int .i64 6) := BT.out.m.k1.trans (by rw [hk]); clear hn hg)
        | (go_at_call 55; (with_reducible refine (hi1 _).mono ?_); rintro e w3 ⟨rfl, hb⟩; have BT := hide (BT.out.kept hb); have c0 : w3.cell? ⟨w.heap.size, 0, none⟩ = some (.int .i64 6) := BT.out.m.k1.trans (by rw [hk]); have c50 := BT.out.m.z; clear hb)
        | (go_at_call 38; (with_reducible refine (hi2 _).mono ?_); rintro e w3 ⟨rfl, hb⟩; have BT := hide (BT.out.kept hb); have c0 : w3.cell? ⟨w.heap.size, 0, none⟩ = some (.int .i64 6) := BT.out.m.k1.trans (by rw [hk]); have c50 := BT.out.m.z; clear hb)
        | (go_at_call 39; (with_reducible refine (hi3 _).mono ?_); rintro e w3 ⟨rfl, hb⟩; have BT := hide (BT.out.kept hb); have c0 : w3.cell? ⟨w.heap.size, 0, none⟩ = some (.int .i64 6) := BT.out.m.k1.trans (by rw [hk]); have c50 := BT.out.m.z; clear hb)
        | (go_at_call 40; (with_reducible refine (hi4 _).mono ?_); rintro e w3 ⟨rfl, hb⟩; have BT := hide (BT.out.kept hb); have c0 : w3.cell? ⟨w.heap.size, 0, none⟩ = some (.int .i64 6) := BT.out.m.k1.trans (by rw [hk]); have c50 := BT.out.m.z; clear hb)
        | (go_at_call 13; (with_reducible refine (hi5 _).mono ?_); rintro e w3 ⟨rfl, hb⟩; have BT := hide (BT.out.kept hb); have c0 : w3.cell? ⟨w.heap.size, 0, none⟩ = some (.int .i64 6) := BT.out.m.k1.trans (by rw [hk]); have c50 := BT.out.m.z; clear hb)
        | (go_at_call 56; (with_reducible refine (hi6 _).mono ?_); rintro e w3 ⟨rfl, hb⟩; have BT := hide (BT.out.kept hb); have c0 : w3.cell? ⟨w.heap.size, 0, none⟩ = some (.int .i64 6) := BT.out.m.k1.trans (by rw [hk]); have c50 := BT.out.m.z; clear hb))
          all_goals (go_ret; exact ⟨ret_bool (by rw [rightLt_inst (by simp [nmI, hk]) (by rw [qb, Bool.and_false])]), BT.out.old⟩)
        · simp only [qb] at hi2
          go_upto_region 24 with (first
        | ((with_reducible refine wpList_load_in ?_ ?_ BT.out.m.i ?_); rfl; rfl)
        | ((with_reducible refine wpList_load_bal ?_ ?_ BT.out.m.b1 ?_); rfl; rfl)
        | ((with_reducible refine wpList_load_cm ?_ ?_ BT.out.m.c ?_); rfl; rfl)
        | ((with_reducible refine wpList_load_at wf.a ?_ ?_ BT.out.m.a ?_); rfl; rfl)
        | ((with_reducible refine wpList_load_ce wf.x ?_ ?_ BT.out.m.x ?_); rfl; rfl)
        | ((with_reducible refine wpList_load_de wf.d ?_ ?_ BT.out.m.d ?_); rfl; rfl)
        | ((with_reducible refine wpList_store_li (p := m.i.1) (q := m.i.2) ?_ ?_ BT.out.n ?_); rfl; rfl; intro w3 hn hg; have BT := hide (BT.out.put hn hg); have c0 : w3.cell? ⟨w.heap.size, 0, none⟩ = some (.int .i64 6) := BT.out.m.k1.trans (by rw [hk]); clear hn hg)
        | ((with_reducible refine wpList_store_lb (p := m.b.1) (q := m.b.2) ?_ ?_ BT.out.n ?_); rfl; rfl; intro w3 hn hg; have BT := hide (BT.out.put hn hg); have c0 : w3.cell? ⟨w.heap.size, 0, none⟩ = some (.int .i64 6) := BT.out.m.k1.trans (by rw [hk]); clear hn hg)
        | ((with_reducible refine wpList_store_la (y := m.a) wf.a ?_ ?_ BT.out.n ?_); rfl; rfl; intro w3 hn hg; have BT := hide (BT.out.put hn hg); have c0 : w3.cell? ⟨w.heap.size, 0, none⟩ = some (.int .i64 6) := BT.out.m.k1.trans (by rw [hk]); clear hn hg)
        | ((with_reducible refine wpList_store_lx (y := m.x) wf.x ?_ ?_ BT.out.n ?_); rfl; rfl; intro w3 hn hg; have BT := hide (BT.out.put hn hg); have c0 : w3.cell? ⟨w.heap.size, 0, none⟩ = some (.int .i64 6) := BT.out.m.k1.trans (by rw [hk]); clear hn hg)
        | ((with_reducible refine wpList_store_lz (z := m.z) ?_ ?_ BT.out.n ?_); rfl; rfl; intro w3 hn hg; have BT := hide (BT.out.put hn hg); have c0 : w3.cell? ⟨w.heap.size, 0, none⟩ = some (.int .i64 6) := BT.out.m.k1.trans (by rw [hk]); clear hn hg)
        | ((with_reducible refine wpList_store_ld (y := m.d) wf.d ?_ ?_ BT.out.n ?_); rfl; rfl; intro w3 hn hg; have BT := hide (BT.out.put hn hg); have c0 : w3.cell? ⟨w.heap.size, 0, none⟩ = some (.int .i64 6) := BT.out.m.k1.trans (by rw [hk]); clear hn hg)
        | (go_at_call 55; (with_reducible refine (hi1 _).mono ?_); rintro e w3 ⟨rfl, hb⟩; have BT := hide (BT.out.kept hb); have c0 : w3.cell? ⟨w.heap.size, 0, none⟩ = some (.int .i64 6) := BT.out.m.k1.trans (by rw [hk]); have c50 := BT.out.m.z; clear hb)
        | (go_at_call 38; (with_reducible refine (hi2 _).mono ?_); rintro e w3 ⟨rfl, hb⟩; have BT := hide (BT.out.kept hb); have c0 : w3.cell? ⟨w.heap.size, 0, none⟩ = some (.int .i64 6) := BT.out.m.k1.trans (by rw [hk]); have c50 := BT.out.m.z; clear hb)
        | (go_at_call 39; (with_reducible refine (hi3 _).mono ?_); rintro e w3 ⟨rfl, hb⟩; have BT := hide (BT.out.kept hb); have c0 : w3.cell? ⟨w.heap.size, 0, none⟩ = some (.int .i64 6) := BT.out.m.k1.trans (by rw [hk]); have c50 := BT.out.m.z; clear hb)
        | (go_at_call 40; (with_reducible refine (hi4 _).mono ?_); rintro e w3 ⟨rfl, hb⟩; have BT := hide (BT.out.kept hb); have c0 : w3.cell? ⟨w.heap.size, 0, none⟩ = some (.int .i64 6) := BT.out.m.k1.trans (by rw [hk]); have c50 := BT.out.m.z; clear hb)
        | (go_at_call 13; (with_reducible refine (hi5 _).mono ?_); rintro e w3 ⟨rfl, hb⟩; have BT := hide (BT.out.kept hb); have c0 : w3.cell? ⟨w.heap.size, 0, none⟩ = some (.int .i64 6) := BT.out.m.k1.trans (by rw [hk]); have c50 := BT.out.m.z; clear hb)
        | (go_at_call 56; (with_reducible refine (hi6 _).mono ?_); rintro e w3 ⟨rfl, hb⟩; have BT := hide (BT.out.kept hb); have c0 : w3.cell? ⟨w.heap.size, 0, none⟩ = some (.int .i64 6) := BT.out.m.k1.trans (by rw [hk]); have c50 := BT.out.m.z; clear hb))
          have e : ({ bare0 m.k m.f m.t with i := m.i, b := m.b } : Lt) = bareL m := by simp [bareL, bare0, nmI, nmB, nmC, nmA, nmX, nmD, nmZ, hk]
          have BT := hide (show Bt w w3 m (bareL m) g by rw [← e]; exact BT.out)
          clear e
          have heq := fun w => eql_letter BT.out.m.wf BT.out.n.wf w
          have c50 := BT.out.m.z
          go_wp2_with (first
        | ((with_reducible refine wpList_load_in ?_ ?_ BT.out.m.i ?_); rfl; rfl)
        | ((with_reducible refine wpList_load_bal ?_ ?_ BT.out.m.b1 ?_); rfl; rfl)
        | ((with_reducible refine wpList_load_cm ?_ ?_ BT.out.m.c ?_); rfl; rfl)
        | ((with_reducible refine wpList_load_at wf.a ?_ ?_ BT.out.m.a ?_); rfl; rfl)
        | ((with_reducible refine wpList_load_ce wf.x ?_ ?_ BT.out.m.x ?_); rfl; rfl)
        | ((with_reducible refine wpList_load_de wf.d ?_ ?_ BT.out.m.d ?_); rfl; rfl)
        | ((with_reducible refine wpList_store_li (p := m.i.1) (q := m.i.2) ?_ ?_ BT.out.n ?_); rfl; rfl; intro w3 hn hg; have BT := hide (BT.out.put hn hg); have c0 : w3.cell? ⟨w.heap.size, 0, none⟩ = some (.int .i64 6) := BT.out.m.k1.trans (by rw [hk]); clear hn hg)
        | ((with_reducible refine wpList_store_lb (p := m.b.1) (q := m.b.2) ?_ ?_ BT.out.n ?_); rfl; rfl; intro w3 hn hg; have BT := hide (BT.out.put hn hg); have c0 : w3.cell? ⟨w.heap.size, 0, none⟩ = some (.int .i64 6) := BT.out.m.k1.trans (by rw [hk]); clear hn hg)
        | ((with_reducible refine wpList_store_la (y := m.a) wf.a ?_ ?_ BT.out.n ?_); rfl; rfl; intro w3 hn hg; have BT := hide (BT.out.put hn hg); have c0 : w3.cell? ⟨w.heap.size, 0, none⟩ = some (.int .i64 6) := BT.out.m.k1.trans (by rw [hk]); clear hn hg)
        | ((with_reducible refine wpList_store_lx (y := m.x) wf.x ?_ ?_ BT.out.n ?_); rfl; rfl; intro w3 hn hg; have BT := hide (BT.out.put hn hg); have c0 : w3.cell? ⟨w.heap.size, 0, none⟩ = some (.int .i64 6) := BT.out.m.k1.trans (by rw [hk]); clear hn hg)
        | ((with_reducible refine wpList_store_lz (z := m.z) ?_ ?_ BT.out.n ?_); rfl; rfl; intro w3 hn hg; have BT := hide (BT.out.put hn hg); have c0 : w3.cell? ⟨w.heap.size, 0, none⟩ = some (.int .i64 6) := BT.out.m.k1.trans (by rw [hk]); clear hn hg)
        | ((with_reducible refine wpList_store_ld (y := m.d) wf.d ?_ ?_ BT.out.n ?_); rfl; rfl; intro w3 hn hg; have BT := hide (BT.out.put hn hg); have c0 : w3.cell? ⟨w.heap.size, 0, none⟩ = some (.int .i64 6) := BT.out.m.k1.trans (by rw [hk]); clear hn hg)
        | (go_at_call 55; (with_reducible refine (hi1 _).mono ?_); rintro e w3 ⟨rfl, hb⟩; have BT := hide (BT.out.kept hb); have c0 : w3.cell? ⟨w.heap.size, 0, none⟩ = some (.int .i64 6) := BT.out.m.k1.trans (by rw [hk]); have c50 := BT.out.m.z; clear hb)
        | (go_at_call 38; (with_reducible refine (hi2 _).mono ?_); rintro e w3 ⟨rfl, hb⟩; have BT := hide (BT.out.kept hb); have c0 : w3.cell? ⟨w.heap.size, 0, none⟩ = some (.int .i64 6) := BT.out.m.k1.trans (by rw [hk]); have c50 := BT.out.m.z; clear hb)
        | (go_at_call 39; (with_reducible refine (hi3 _).mono ?_); rintro e w3 ⟨rfl, hb⟩; have BT := hide (BT.out.kept hb); have c0 : w3.cell? ⟨w.heap.size, 0, none⟩ = some (.int .i64 6) := BT.out.m.k1.trans (by rw [hk]); have c50 := BT.out.m.z; clear hb)
        | (go_at_call 40; (with_reducible refine (hi4 _).mono ?_); rintro e w3 ⟨rfl, hb⟩; have BT := hide (BT.out.kept hb); have c0 : w3.cell? ⟨w.heap.size, 0, none⟩ = some (.int .i64 6) := BT.out.m.k1.trans (by rw [hk]); have c50 := BT.out.m.z; clear hb)
        | (go_at_call 13; (with_reducible refine (hi5 _).mono ?_); rintro e w3 ⟨rfl, hb⟩; have BT := hide (BT.out.kept hb); have c0 : w3.cell? ⟨w.heap.size, 0, none⟩ = some (.int .i64 6) := BT.out.m.k1.trans (by rw [hk]); have c50 := BT.out.m.z; clear hb)
        | (go_at_call 56; (with_reducible refine (hi6 _).mono ?_); rintro e w3 ⟨rfl, hb⟩; have BT := hide (BT.out.kept hb); have c0 : w3.cell? ⟨w.heap.size, 0, none⟩ = some (.int .i64 6) := BT.out.m.k1.trans (by rw [hk]); have c50 := BT.out.m.z; clear hb)
        | ((with_reducible refine wpList_load_lt BT.out.m.wf ?_ ?_ BT.out.m.all ?_); rfl; rfl)
        | ((with_reducible refine wpList_load_lt BT.out.n.wf ?_ ?_ BT.out.n.all ?_); rfl; rfl))
          all_goals (go_ret; refine ⟨ret_bool ?_, BT.out.old⟩; rw [rightLt_tail HC.out (fun _ => by rw [qi, qb]; rfl)]; clear hi1 hi2 hi3 hi4 hi5 hi6 heq c50; first | (simp [*]; done) | (simp [*]; omega))
    · have c0 : w2.cell? ⟨w.heap.size, 0, none⟩ = some (.int .i64 7) := BT.out.m.k1.trans (by rw [hk])
      cases qi : rightI m.i.1 m.i.2
      · simp only [qi] at hi1
        go_upto_region 24 with (first
        | ((with_reducible refine wpList_load_in ?_ ?_ BT.out.m.i ?_); rfl; rfl)
        | ((with_reducible refine wpList_load_bal ?_ ?_ BT.out.m.b1 ?_); rfl; rfl)
        | ((with_reducible refine wpList_load_cm ?_ ?_ BT.out.m.c ?_); rfl; rfl)
        | ((with_reducible refine wpList_load_at wf.a ?_ ?_ BT.out.m.a ?_); rfl; rfl)
        | ((with_reducible refine wpList_load_ce wf.x ?_ ?_ BT.out.m.x ?_); rfl; rfl)
        | ((with_reducible refine wpList_load_de wf.d ?_ ?_ BT.out.m.d ?_); rfl; rfl)
        | ((with_reducible refine wpList_store_li (p := m.i.1) (q := m.i.2) ?_ ?_ BT.out.n ?_); rfl; rfl; intro w3 hn hg; have BT := hide (BT.out.put hn hg); have c0 : w3.cell? ⟨w.heap.size, 0, none⟩ = some (.int .i64 7) := BT.out.m.k1.trans (by rw [hk]); clear hn hg)
        | ((with_reducible refine wpList_store_lb (p := m.b.1) (q := m.b.2) ?_ ?_ BT.out.n ?_); rfl; rfl; intro w3 hn hg; have BT := hide (BT.out.put hn hg); have c0 : w3.cell? ⟨w.heap.size, 0, none⟩ = some (.int .i64 7) := BT.out.m.k1.trans (by rw [hk]); clear hn hg)
        | ((with_reducible refine wpList_store_la (y := m.a) wf.a ?_ ?_ BT.out.n ?_); rfl; rfl; intro w3 hn hg; have BT := hide (BT.out.put hn hg); have c0 : w3.cell? ⟨w.heap.size, 0, none⟩ = some (.int .i64 7) := BT.out.m.k1.trans (by rw [hk]); clear hn hg)
        | ((with_reducible refine wpList_store_lx (y := m.x) wf.x ?_ ?_ BT.out.n ?_); rfl; rfl; intro w3 hn hg; have BT := hide (BT.out.put hn hg); have c0 : w3.cell? ⟨w.heap.size, 0, none⟩ = some (.int .i64 7) := BT.out.m.k1.trans (by rw [hk]); clear hn hg)
        | ((with_reducible refine wpList_store_lz (z := m.z) ?_ ?_ BT.out.n ?_); rfl; rfl; intro w3 hn hg; have BT := hide (BT.out.put hn hg); have c0 : w3.cell? ⟨w.heap.size, 0, none⟩ = some (.int .i64 7) := BT.out.m.k1.trans (by rw [hk]); clear hn hg)
        | ((with_reducible refine wpList_store_ld (y := m.d) wf.d ?_ ?_ BT.out.n ?_); rfl; rfl; intro w3 hn hg; have BT := hide (BT.out.put hn hg); have c0 : w3.cell? ⟨w.heap.size, 0, none⟩ = some (.int .i64 7) := BT.out.m.k1.trans (by rw [hk]); clear hn hg)
        | (go_at_call 55; (with_reducible refine (hi1 _).mono ?_); rintro e w3 ⟨rfl, hb⟩; have BT := hide (BT.out.kept hb); have c0 : w3.cell? ⟨w.heap.size, 0, none⟩ = some (.int .i64 7) := BT.out.m.k1.trans (by rw [hk]); have c50 := BT.out.m.z; clear hb)
        | (go_at_call 38; (with_reducible refine (hi2 _).mono ?_); rintro e w3 ⟨rfl, hb⟩; have BT := hide (BT.out.kept hb); have c0 : w3.cell? ⟨w.heap.size, 0, none⟩ = some (.int .i64 7) := BT.out.m.k1.trans (by rw [hk]); have c50 := BT.out.m.z; clear hb)
        | (go_at_call 39; (with_reducible refine (hi3 _).mono ?_); rintro e w3 ⟨rfl, hb⟩; have BT := hide (BT.out.kept hb); have c0 : w3.cell? ⟨w.heap.size, 0, none⟩ = some (.int .i64 7) := BT.out.m.k1.trans (by rw [hk]); have c50 := BT.out.m.z; clear hb)
        | (go_at_call 40; (with_reducible refine (hi4 _).mono ?_); rintro e w3 ⟨rfl, hb⟩; have BT := hide (BT.out.kept hb); have c0 : w3.cell? ⟨w.heap.size, 0, none⟩ = some (.int .i64 7) := BT.out.m.k1.trans (by rw [hk]); have c50 := BT.out.m.z; clear hb)
        | (go_at_call 13; (with_reducible refine (hi5 _).mono ?_); rintro e w3 ⟨rfl, hb⟩; have BT := hide (BT.out.kept hb); have c0 : w3.cell? ⟨w.heap.size, 0, none⟩ = some (.int .i64 7) := BT.out.m.k1.trans (by rw [hk]); have c50 := BT.out.m.z; clear hb)
        | (go_at_call 56; (with_reducible refine (hi6 _).mono ?_); rintro e w3 ⟨rfl, hb⟩; have BT := hide (BT.out.kept hb); have c0 : w3.cell? ⟨w.heap.size, 0, none⟩ = some (.int .i64 7) := BT.out.m.k1.trans (by rw [hk]); have c50 := BT.out.m.z; clear hb))
        all_goals (go_ret; exact ⟨ret_bool (by rw [rightLt_inst (by simp [nmI, hk]) (by rw [qi]; rfl)]), BT.out.old⟩)
      · simp only [qi] at hi1
        cases qb : rightB m.b.1 m.b.2
        · simp only [qb] at hi2
          go_upto_region 24 with (first
        | ((with_reducible refine wpList_load_in ?_ ?_ BT.out.m.i ?_); rfl; rfl)
        | ((with_reducible refine wpList_load_bal ?_ ?_ BT.out.m.b1 ?_); rfl; rfl)
        | ((with_reducible refine wpList_load_cm ?_ ?_ BT.out.m.c ?_); rfl; rfl)
        | ((with_reducible refine wpList_load_at wf.a ?_ ?_ BT.out.m.a ?_); rfl; rfl)
        | ((with_reducible refine wpList_load_ce wf.x ?_ ?_ BT.out.m.x ?_); rfl; rfl)
        | ((with_reducible refine wpList_load_de wf.d ?_ ?_ BT.out.m.d ?_); rfl; rfl)
        | ((with_reducible refine wpList_store_li (p := m.i.1) (q := m.i.2) ?_ ?_ BT.out.n ?_); rfl; rfl; intro w3 hn hg; have BT := hide (BT.out.put hn hg); have c0 : w3.cell? ⟨w.heap.size, 0, none⟩ = some (.int .i64 7) := BT.out.m.k1.trans (by rw [hk]); clear hn hg)
        | ((with_reducible refine wpList_store_lb (p := m.b.1) (q := m.b.2) ?_ ?_ BT.out.n ?_); rfl; rfl; intro w3 hn hg; have BT := hide (BT.out.put hn hg); have c0 : w3.cell? ⟨w.heap.size, 0, none⟩ = some (.int .i64 7) := BT.out.m.k1.trans (by rw [hk]); clear hn hg)
        | ((with_reducible refine wpList_store_la (y := m.a) wf.a ?_ ?_ BT.out.n ?_); rfl; rfl; intro w3 hn hg; have BT := hide (BT.out.put hn hg); have c0 : w3.cell? ⟨w.heap.size, 0, none⟩ = some (.int .i64 7) := BT.out.m.k1.trans (by rw [hk]); clear hn hg)
        | ((with_reducible refine wpList_store_lx (y := m.x) wf.x ?_ ?_ BT.out.n ?_); rfl; rfl; intro w3 hn hg; have BT := hide (BT.out.put hn hg); have c0 : w3.cell? ⟨w.heap.size, 0, none⟩ = some (.int .i64 7) := BT.out.m.k1.trans (by rw [hk]); clear hn hg)
        | ((with_reducible refine wpList_store_lz (z := m.z) ?_ ?_ BT.out.n ?_); rfl; rfl; intro w3 hn hg; have BT := hide (BT.out.put hn hg); have c0 : w3.cell? ⟨w.heap.size, 0, none⟩ = some (.int .i64 7) := BT.out.m.k1.trans (by rw [hk]); clear hn hg)
        | ((with_reducible refine wpList_store_ld (y := m.d) wf.d ?_ ?_ BT.out.n ?_); rfl; rfl; intro w3 hn hg; have BT := hide (BT.out.put hn hg); have c0 : w3.cell? ⟨w.heap.size, 0, none⟩ = some (.int .i64 7) := BT.out.m.k1.trans (by rw [hk]); clear hn hg)
        | (go_at_call 55; (with_reducible refine (hi1 _).mono ?_); rintro e w3 ⟨rfl, hb⟩; have BT := hide (BT.out.kept hb); have c0 : w3.cell? ⟨w.heap.size, 0, none⟩ = some (.int .i64 7) := BT.out.m.k1.trans (by rw [hk]); have c50 := BT.out.m.z; clear hb)
        | (go_at_call 38; (with_reducible refine (hi2 _).mono ?_); rintro e w3 ⟨rfl, hb⟩; have BT := hide (BT.out.kept hb); have c0 : w3.cell? ⟨w.heap.size, 0, none⟩ = some (.int .i64 7) := BT.out.m.k1.trans (by rw [hk]); have c50 := BT.out.m.z; clear hb)
        | (go_at_call 39; (with_reducible refine (hi3 _).mono ?_); rintro e w3 ⟨rfl, hb⟩; have BT := hide (BT.out.kept hb); have c0 : w3.cell? ⟨w.heap.size, 0, none⟩ = some (.int .i64 7) := BT.out.m.k1.trans (by rw [hk]); have c50 := BT.out.m.z; clear hb)
        | (go_at_call 40; (with_reducible refine (hi4 _).mono ?_); rintro e w3 ⟨rfl, hb⟩; have BT := hide (BT.out.kept hb); have c0 : w3.cell? ⟨w.heap.size, 0, none⟩ = some (.int .i64 7) := BT.out.m.k1.trans (by rw [hk]); have c50 := BT.out.m.z; clear hb)
        | (go_at_call 13; (with_reducible refine (hi5 _).mono ?_); rintro e w3 ⟨rfl, hb⟩; have BT := hide (BT.out.kept hb); have c0 : w3.cell? ⟨w.heap.size, 0, none⟩ = some (.int .i64 7) := BT.out.m.k1.trans (by rw [hk]); have c50 := BT.out.m.z; clear hb)
        | (go_at_call 56; (with_reducible refine (hi6 _).mono ?_); rintro e w3 ⟨rfl, hb⟩; have BT := hide (BT.out.kept hb); have c0 : w3.cell? ⟨w.heap.size, 0, none⟩ = some (.int .i64 7) := BT.out.m.k1.trans (by rw [hk]); have c50 := BT.out.m.z; clear hb))
          all_goals (go_ret; exact ⟨ret_bool (by rw [rightLt_inst (by simp [nmI, hk]) (by rw [qb, Bool.and_false])]), BT.out.old⟩)
        · simp only [qb] at hi2
          go_upto_region 24 with (first
        | ((with_reducible refine wpList_load_in ?_ ?_ BT.out.m.i ?_); rfl; rfl)
        | ((with_reducible refine wpList_load_bal ?_ ?_ BT.out.m.b1 ?_); rfl; rfl)
        | ((with_reducible refine wpList_load_cm ?_ ?_ BT.out.m.c ?_); rfl; rfl)
        | ((with_reducible refine wpList_load_at wf.a ?_ ?_ BT.out.m.a ?_); rfl; rfl)
        | ((with_reducible refine wpList_load_ce wf.x ?_ ?_ BT.out.m.x ?_); rfl; rfl)
        | ((with_reducible refine wpList_load_de wf.d ?_ ?_ BT.out.m.d ?_); rfl; rfl)
        | ((with_reducible refine wpList_store_li (p := m.i.1) (q := m.i.2) ?_ ?_ BT.out.n ?_); rfl; rfl; intro w3 hn hg; have BT := hide (BT.out.put hn hg); have c0 : w3.cell? ⟨w.heap.size, 0, none⟩ = some (.int .i64 7) := BT.out.m.k1.trans (by rw [hk]); clear hn hg)
        | ((with_reducible refine wpList_store_lb (p := m.b.1) (q := m.b.2) ?_ ?_ BT.out.n ?_); rfl; rfl; intro w3 hn hg; have BT := hide (BT.out.put hn hg); have c0 : w3.cell? ⟨w.heap.size, 0, none⟩ = some (.int .i64 7) := BT.out.m.k1.trans (by rw [hk]); clear hn hg)
        | ((with_reducible refine wpList_store_la (y := m.a) wf.a ?_ ?_ BT.out.n ?_); rfl; rfl; intro w3 hn hg; have BT := hide (BT.out.put hn hg); have c0 : w3.cell? ⟨w.heap.size, 0, none⟩ = some (.int .i64 7) := BT.out.m.k1.trans (by rw [hk]); clear hn hg)
        | ((with_reducible refine wpList_store_lx (y := m.x) wf.x ?_ ?_ BT.out.n ?_); rfl; rfl; intro w3 hn hg; have BT := hide (BT.out.put hn hg); have c0 : w3.cell? ⟨w.heap.size, 0, none⟩ = some (.int .i64 7) := BT.out.m.k1.trans (by rw [hk]); clear hn hg)
        | ((with_reducible refine wpList_store_lz (z := m.z) ?_ ?_ BT.out.n ?_); rfl; rfl; intro w3 hn hg; have BT := hide (BT.out.put hn hg); have c0 : w3.cell? ⟨w.heap.size, 0, none⟩ = some (.int .i64 7) := BT.out.m.k1.trans (by rw [hk]); clear hn hg)
        | ((with_reducible refine wpList_store_ld (y := m.d) wf.d ?_ ?_ BT.out.n ?_); rfl; rfl; intro w3 hn hg; have BT := hide (BT.out.put hn hg); have c0 : w3.cell? ⟨w.heap.size, 0, none⟩ = some (.int .i64 7) := BT.out.m.k1.trans (by rw [hk]); clear hn hg)
        | (go_at_call 55; (with_reducible refine (hi1 _).mono ?_); rintro e w3 ⟨rfl, hb⟩; have BT := hide (BT.out.kept hb); have c0 : w3.cell? ⟨w.heap.size, 0, none⟩ = some (.int .i64 7) := BT.out.m.k1.trans (by rw [hk]); have c50 := BT.out.m.z; clear hb)
        | (go_at_call 38; (with_reducible refine (hi2 _).mono ?_); rintro e w3 ⟨rfl, hb⟩; have BT := hide (BT.out.kept hb); have c0 : w3.cell? ⟨w.heap.size, 0, none⟩ = some (.int .i64 7) := BT.out.m.k1.trans (by rw [hk]); have c50 := BT.out.m.z; clear hb)
        | (go_at_call 39; (with_reducible refine (hi3 _).mono ?_); rintro e w3 ⟨rfl, hb⟩; have BT := hide (BT.out.kept hb); have c0 : w3.cell? ⟨w.heap.size, 0, none⟩ = some (.int .i64 7) := BT.out.m.k1.trans (by rw [hk]); have c50 := BT.out.m.z; clear hb)
        | (go_at_call 40; (with_reducible refine (hi4 _).mono ?_); rintro e w3 ⟨rfl, hb⟩; have BT := hide (BT.out.kept hb); have c0 : w3.cell? ⟨w.heap.size, 0, none⟩ = some (.int .i64 7) := BT.out.m.k1.trans (by rw [hk]); have c50 := BT.out.m.z; clear hb)
        | (go_at_call 13; (with_reducible refine (hi5 _).mono ?_); rintro e w3 ⟨rfl, hb⟩; have BT := hide (BT.out.kept hb); have c0 : w3.cell? ⟨w.heap.size, 0, none⟩ = some (.int .i64 7) := BT.out.m.k1.trans (by rw [hk]); have c50 := BT.out.m.z; clear hb)
        | (go_at_call 56; (with_reducible refine (hi6 _).mono ?_); rintro e w3 ⟨rfl, hb⟩; have BT := hide (BT.out.kept hb); have c0 : w3.cell? ⟨w.heap.size, 0, none⟩ = some (.int .i64 7) := BT.out.m.k1.trans (by rw [hk]); have c50 := BT.out.m.z; clear hb))
          have e : ({ bare0 m.k m.f m.t with i := m.i, b := m.b, x := m.x } : Lt) = bareL m := by simp [bareL, bare0, nmI, nmB, nmC, nmA, nmX, nmD, nmZ, hk]
          have BT := hide (show Bt w w3 m (bareL m) g by rw [← e]; exact BT.out)
          clear e
          have heq := fun w => eql_letter BT.out.m.wf BT.out.n.wf w
          have c50 := BT.out.m.z
          go_wp2_with (first
        | ((with_reducible refine wpList_load_in ?_ ?_ BT.out.m.i ?_); rfl; rfl)
        | ((with_reducible refine wpList_load_bal ?_ ?_ BT.out.m.b1 ?_); rfl; rfl)
        | ((with_reducible refine wpList_load_cm ?_ ?_ BT.out.m.c ?_); rfl; rfl)
        | ((with_reducible refine wpList_load_at wf.a ?_ ?_ BT.out.m.a ?_); rfl; rfl)
        | ((with_reducible refine wpList_load_ce wf.x ?_ ?_ BT.out.m.x ?_); rfl; rfl)
        | ((with_reducible refine wpList_load_de wf.d ?_ ?_ BT.out.m.d ?_); rfl; rfl)
        | ((with_reducible refine wpList_store_li (p := m.i.1) (q := m.i.2) ?_ ?_ BT.out.n ?_); rfl; rfl; intro w3 hn hg; have BT := hide (BT.out.put hn hg); have c0 : w3.cell? ⟨w.heap.size, 0, none⟩ = some (.int .i64 7) := BT.out.m.k1.trans (by rw [hk]); clear hn hg)
        | ((with_reducible refine wpList_store_lb (p := m.b.1) (q := m.b.2) ?_ ?_ BT.out.n ?_); rfl; rfl; intro w3 hn hg; have BT := hide (BT.out.put hn hg); have c0 : w3.cell? ⟨w.heap.size, 0, none⟩ = some (.int .i64 7) := BT.out.m.k1.trans (by rw [hk]); clear hn hg)
        | ((with_reducible refine wpList_store_la (y := m.a) wf.a ?_ ?_ BT.out.n ?_); rfl; rfl; intro w3 hn hg; have BT := hide (BT.out.put hn hg); have c0 : w3.cell? ⟨w.heap.size, 0, none⟩ = some (.int .i64 7) := BT.out.m.k1.trans (by rw [hk]); clear hn hg)
        | ((with_reducible refine wpList_store_lx (y := m.x) wf.x ?_ ?_ BT.out.n ?_); rfl; rfl; intro w3 hn hg; have BT := hide (BT.out.put hn hg); have c0 : w3.cell? ⟨w.heap.size, 0, none⟩ = some (.int .i64 7) := BT.out.m.k1.trans (by rw [hk]); clear hn hg)
        | ((with_reducible refine wpList_store_lz (z := m.z) ?_ ?_ BT.out.n ?_); rfl; rfl; intro w3 hn hg; have BT := hide (BT.out.put hn hg); have c0 : w3.cell? ⟨w.heap.size, 0, none⟩ = some (.int .i64 7) := BT.out.m.k1.trans (by rw [hk]); clear hn hg)
        | ((with_reducible refine wpList_store_ld (y := m.d) wf.d ?_ ?_ BT.out.n ?_); rfl; rfl; intro w3 hn hg; have BT := hide (BT.out.put hn hg); have c0 : w3.cell? ⟨w.heap.size, 0, none⟩ = some (.int .i64 7) := BT.out.m.k1.trans (by rw [hk]); clear hn hg)
        | (go_at_call 55; (with_reducible refine (hi1 _).mono ?_); rintro e w3 ⟨rfl, hb⟩; have BT := hide (BT.out.kept hb); have c0 : w3.cell? ⟨w.heap.size, 0, none⟩ = some (.int .i64 7) := BT.out.m.k1.trans (by rw [hk]); have c50 := BT.out.m.z; clear hb)
        | (go_at_call 38; (with_reducible refine (hi2 _).mono ?_); rintro e w3 ⟨rfl, hb⟩; have BT := hide (BT.out.kept hb); have c0 : w3.cell? ⟨w.heap.size, 0, none⟩ = some (.int .i64 7) := BT.out.m.k1.trans (by rw [hk]); have c50 := BT.out.m.z; clear hb)
        | (go_at_call 39; (with_reducible refine (hi3 _).mono ?_); rintro e w3 ⟨rfl, hb⟩; have BT := hide (BT.out.kept hb); have c0 : w3.cell? ⟨w.heap.size, 0, none⟩ = some (.int .i64 7) := BT.out.m.k1.trans (by rw [hk]); have c50 := BT.out.m.z; clear hb)
        | (go_at_call 40; (with_reducible refine (hi4 _).mono ?_); rintro e w3 ⟨rfl, hb⟩; have BT := hide (BT.out.kept hb); have c0 : w3.cell? ⟨w.heap.size, 0, none⟩ = some (.int .i64 7) := BT.out.m.k1.trans (by rw [hk]); have c50 := BT.out.m.z; clear hb)
        | (go_at_call 13; (with_reducible refine (hi5 _).mono ?_); rintro e w3 ⟨rfl, hb⟩; have BT := hide (BT.out.kept hb); have c0 : w3.cell? ⟨w.heap.size, 0, none⟩ = some (.int .i64 7) := BT.out.m.k1.trans (by rw [hk]); have c50 := BT.out.m.z; clear hb)
        | (go_at_call 56; (with_reducible refine (hi6 _).mono ?_); rintro e w3 ⟨rfl, hb⟩; have BT := hide (BT.out.kept hb); have c0 : w3.cell? ⟨w.heap.size, 0, none⟩ = some (.int .i64 7) := BT.out.m.k1.trans (by rw [hk]); have c50 := BT.out.m.z; clear hb)
        | ((with_reducible refine wpList_load_lt BT.out.m.wf ?_ ?_ BT.out.m.all ?_); rfl; rfl)
        | ((with_reducible refine wpList_load_lt BT.out.n.wf ?_ ?_ BT.out.n.all ?_); rfl; rfl))
          all_goals (go_ret; refine ⟨ret_bool ?_, BT.out.old⟩; rw [rightLt_tail HC.out (fun _ => by rw [qi, qb]; rfl)]; clear hi1 hi2 hi3 hi4 hi5 hi6 heq c50; first | (simp [*]; done) | (simp [*]; omega))
    · have c0 : w2.cell? ⟨w.heap.size, 0, none⟩ = some (.int .i64 8) := BT.out.m.k1.trans (by rw [hk])
      cases qi : rightI m.i.1 m.i.2
      · simp only [qi] at hi1
        go_upto_region 24 with (first
        | ((with_reducible refine wpList_load_in ?_ ?_ BT.out.m.i ?_); rfl; rfl)
        | ((with_reducible refine wpList_load_bal ?_ ?_ BT.out.m.b1 ?_); rfl; rfl)
        | ((with_reducible refine wpList_load_cm ?_ ?_ BT.out.m.c ?_); rfl; rfl)
        | ((with_reducible refine wpList_load_at wf.a ?_ ?_ BT.out.m.a ?_); rfl; rfl)
        | ((with_reducible refine wpList_load_ce wf.x ?_ ?_ BT.out.m.x ?_); rfl; rfl)
        | ((with_reducible refine wpList_load_de wf.d ?_ ?_ BT.out.m.d ?_); rfl; rfl)
        | ((with_reducible refine wpList_store_li (p := m.i.1) (q := m.i.2) ?_ ?_ BT.out.n ?_); rfl; rfl; intro w3 hn hg; have BT := hide (BT.out.put hn hg); have c0 : w3.cell? ⟨w.heap.size, 0, none⟩ = some (.int .i64 8) := BT.out.m.k1.trans (by rw [hk]); clear hn hg)
        | ((with_reducible refine wpList_store_lb (p := m.b.1) (q := m.b.2) ?_ ?_ BT.out.n ?_); rfl; rfl; intro w3 hn hg; have BT := hide (BT.out.put hn hg); have c0 : w3.cell? ⟨w.heap.size, 0, none⟩ = some (.int .i64 8) := BT.out.m.k1.trans (by rw [hk]); clear hn hg)
        | ((with_reducible refine wpList_store_la (y := m.a) wf.a ?_ ?_ BT.out.n ?_); rfl; rfl; intro w3 hn hg; have BT := hide (BT.out.put hn hg); have c0 : w3.cell? ⟨w.heap.size, 0, none⟩ = some (.int .i64 8) := BT.out.m.k1.trans (by rw [hk]); clear hn hg)
        | ((with_reducible refine wpList_store_lx (y := m.x) wf.x ?_ ?_ BT.out.n ?_); rfl; rfl; intro w3 hn hg; have BT := hide (BT.out.put hn hg); have c0 : w3.cell? ⟨w.heap.size, 0, none⟩ = some (.int .i64 8) := BT.out.m.k1.trans (by rw [hk]); clear hn hg)
        | ((with_reducible refine wpList_store_lz (z := m.z) ?_ ?_ BT.out.n ?_); rfl; rfl; intro w3 hn hg; have BT := hide (BT.out.put hn hg); have c0 : w3.cell? ⟨w.heap.size, 0, none⟩ = some (.int .i64 8) := BT.out.m.k1.trans (by rw [hk]); clear hn hg)
        | ((with_reducible refine wpList_store_ld (y := m.d) wf.d ?_ ?_ BT.out.n ?_); rfl; rfl; intro w3 hn hg; have BT := hide (BT.out.put hn hg); have c0 : w3.cell? ⟨w.heap.size, 0, none⟩ = some (.int .i64 8) := BT.out.m.k1.trans (by rw [hk]); clear hn hg)
        | (go_at_call 55; (with_reducible refine (hi1 _).mono ?_); rintro e w3 ⟨rfl, hb⟩; have BT := hide (BT.out.kept hb); have c0 : w3.cell? ⟨w.heap.size, 0, none⟩ = some (.int .i64 8) := BT.out.m.k1.trans (by rw [hk]); have c50 := BT.out.m.z; clear hb)
        | (go_at_call 38; (with_reducible refine (hi2 _).mono ?_); rintro e w3 ⟨rfl, hb⟩; have BT := hide (BT.out.kept hb); have c0 : w3.cell? ⟨w.heap.size, 0, none⟩ = some (.int .i64 8) := BT.out.m.k1.trans (by rw [hk]); have c50 := BT.out.m.z; clear hb)
        | (go_at_call 39; (with_reducible refine (hi3 _).mono ?_); rintro e w3 ⟨rfl, hb⟩; have BT := hide (BT.out.kept hb); have c0 : w3.cell? ⟨w.heap.size, 0, none⟩ = some (.int .i64 8) := BT.out.m.k1.trans (by rw [hk]); have c50 := BT.out.m.z; clear hb)
        | (go_at_call 40; (with_reducible refine (hi4 _).mono ?_); rintro e w3 ⟨rfl, hb⟩; have BT := hide (BT.out.kept hb); have c0 : w3.cell? ⟨w.heap.size, 0, none⟩ = some (.int .i64 8) := BT.out.m.k1.trans (by rw [hk]); have c50 := BT.out.m.z; clear hb)
        | (go_at_call 13; (with_reducible refine (hi5 _).mono ?_); rintro e w3 ⟨rfl, hb⟩; have BT := hide (BT.out.kept hb); have c0 : w3.cell? ⟨w.heap.size, 0, none⟩ = some (.int .i64 8) := BT.out.m.k1.trans (by rw [hk]); have c50 := BT.out.m.z; clear hb)
        | (go_at_call 56; (with_reducible refine (hi6 _).mono ?_); rintro e w3 ⟨rfl, hb⟩; have BT := hide (BT.out.kept hb); have c0 : w3.cell? ⟨w.heap.size, 0, none⟩ = some (.int .i64 8) := BT.out.m.k1.trans (by rw [hk]); have c50 := BT.out.m.z; clear hb))
        all_goals (go_ret; exact ⟨ret_bool (by rw [rightLt_inst (by simp [nmI, hk]) (by rw [qi]; rfl)]), BT.out.old⟩)
      · simp only [qi] at hi1
        cases qb : rightB m.b.1 m.b.2
        · simp only [qb] at hi2
          go_upto_region 24 with (first
        | ((with_reducible refine wpList_load_in ?_ ?_ BT.out.m.i ?_); rfl; rfl)
        | ((with_reducible refine wpList_load_bal ?_ ?_ BT.out.m.b1 ?_); rfl; rfl)
        | ((with_reducible refine wpList_load_cm ?_ ?_ BT.out.m.c ?_); rfl; rfl)
        | ((with_reducible refine wpList_load_at wf.a ?_ ?_ BT.out.m.a ?_); rfl; rfl)
        | ((with_reducible refine wpList_load_ce wf.x ?_ ?_ BT.out.m.x ?_); rfl; rfl)
        | ((with_reducible refine wpList_load_de wf.d ?_ ?_ BT.out.m.d ?_); rfl; rfl)
        | ((with_reducible refine wpList_store_li (p := m.i.1) (q := m.i.2) ?_ ?_ BT.out.n ?_); rfl; rfl; intro w3 hn hg; have BT := hide (BT.out.put hn hg); have c0 : w3.cell? ⟨w.heap.size, 0, none⟩ = some (.int .i64 8) := BT.out.m.k1.trans (by rw [hk]); clear hn hg)
        | ((with_reducible refine wpList_store_lb (p := m.b.1) (q := m.b.2) ?_ ?_ BT.out.n ?_); rfl; rfl; intro w3 hn hg; have BT := hide (BT.out.put hn hg); have c0 : w3.cell? ⟨w.heap.size, 0, none⟩ = some (.int .i64 8) := BT.out.m.k1.trans (by rw [hk]); clear hn hg)
        | ((with_reducible refine wpList_store_la (y := m.a) wf.a ?_ ?_ BT.out.n ?_); rfl; rfl; intro w3 hn hg; have BT := hide (BT.out.put hn hg); have c0 : w3.cell? ⟨w.heap.size, 0, none⟩ = some (.int .i64 8) := BT.out.m.k1.trans (by rw [hk]); clear hn hg)
        | ((with_reducible refine wpList_store_lx (y := m.x) wf.x ?_ ?_ BT.out.n ?_); rfl; rfl; intro w3 hn hg; have BT := hide (BT.out.put hn hg); have c0 : w3.cell? ⟨w.heap.size, 0, none⟩ = some (.int .i64 8) := BT.out.m.k1.trans (by rw [hk]); clear hn hg)
        | ((with_reducible refine wpList_store_lz (z := m.z) ?_ ?_ BT.out.n ?_); rfl; rfl; intro w3 hn hg; have BT := hide (BT.out.put hn hg); have c0 : w3.cell? ⟨w.heap.size, 0, none⟩ = some (.int .i64 8) := BT.out.m.k1.trans (by rw [hk]); clear hn hg)
        | ((with_reducible refine wpList_store_ld (y := m.d) wf.d ?_ ?_ BT.out.n ?_); rfl; rfl; intro w3 hn hg; have BT := hide (BT.out.put hn hg); have c0 : w3.cell? ⟨w.heap.size, 0, none⟩ = some (.int .i64 8) := BT.out.m.k1.trans (by rw [hk]); clear hn hg)
        | (go_at_call 55; (with_reducible refine (hi1 _).mono ?_); rintro e w3 ⟨rfl, hb⟩; have BT := hide (BT.out.kept hb); have c0 : w3.cell? ⟨w.heap.size, 0, none⟩ = some (.int .i64 8) := BT.out.m.k1.trans (by rw [hk]); have c50 := BT.out.m.z; clear hb)
        | (go_at_call 38; (with_reducible refine (hi2 _).mono ?_); rintro e w3 ⟨rfl, hb⟩; have BT := hide (BT.out.kept hb); have c0 : w3.cell? ⟨w.heap.size, 0, none⟩ = some (.int .i64 8) := BT.out.m.k1.trans (by rw [hk]); have c50 := BT.out.m.z; clear hb)
        | (go_at_call 39; (with_reducible refine (hi3 _).mono ?_); rintro e w3 ⟨rfl, hb⟩; have BT := hide (BT.out.kept hb); have c0 : w3.cell? ⟨w.heap.size, 0, none⟩ = some (.int .i64 8) := BT.out.m.k1.trans (by rw [hk]); have c50 := BT.out.m.z; clear hb)
        | (go_at_call 40; (with_reducible refine (hi4 _).mono ?_); rintro e w3 ⟨rfl, hb⟩; have BT := hide (BT.out.kept hb); have c0 : w3.cell? ⟨w.heap.size, 0, none⟩ = some (.int .i64 8) := BT.out.m.k1.trans (by rw [hk]); have c50 := BT.out.m.z; clear hb)
        | (go_at_call 13; (with_reducible refine (hi5 _).mono ?_); rintro e w3 ⟨rfl, hb⟩; have BT := hide (BT.out.kept hb); have c0 : w3.cell? ⟨w.heap.size, 0, none⟩ = some (.int .i64 8) := BT.out.m.k1.trans (by rw [hk]); have c50 := BT.out.m.z; clear hb)
        | (go_at_call 56; (with_reducible refine (hi6 _).mono ?_); rintro e w3 ⟨rfl, hb⟩; have BT := hide (BT.out.kept hb); have c0 : w3.cell? ⟨w.heap.size, 0, none⟩ = some (.int .i64 8) := BT.out.m.k1.trans (by rw [hk]); have c50 := BT.out.m.z; clear hb))
          all_goals (go_ret; exact ⟨ret_bool (by rw [rightLt_inst (by simp [nmI, hk]) (by rw [qb, Bool.and_false])]), BT.out.old⟩)
        · simp only [qb] at hi2
          go_upto_region 24 with (first
        | ((with_reducible refine wpList_load_in ?_ ?_ BT.out.m.i ?_); rfl; rfl)
        | ((with_reducible refine wpList_load_bal ?_ ?_ BT.out.m.b1 ?_); rfl; rfl)
        | ((with_reducible refine wpList_load_cm ?_ ?_ BT.out.m.c ?_); rfl; rfl)
        | ((with_reducible refine wpList_load_at wf.a ?_ ?_ BT.out.m.a ?_); rfl; rfl)
        | ((with_reducible refine wpList_load_ce wf.x ?_ ?_ BT.out.m.x ?_); rfl; rfl)
        | ((with_reducible refine wpList_load_de wf.d ?_ ?_ BT.out.m.d ?_); rfl; rfl)
        | ((with_reducible refine wpList_store_li (p := m.i.1) (q := m.i.2) ?_ ?_ BT.out.n ?_); rfl; rfl; intro w3 hn hg; have BT := hide (BT.out.put hn hg); have c0 : w3.cell? ⟨w.heap.size, 0, none⟩ = some (.int .i64 8) := BT.out.m.k1.trans (by rw [hk]); clear hn hg)
        | ((with_reducible refine wpList_store_lb (p := m.b.1) (q := m.b.2) ?_ ?_ BT.out.n ?_); rfl; rfl; intro w3 hn hg; have BT := hide (BT.out.put hn hg); have c0 : w3.cell? ⟨w.heap.size, 0, none⟩ = some (.int .i64 8) := BT.out.m.k1.trans (by rw [hk]); clear hn hg)
        | ((with_reducible refine wpList_store_la (y := m.a) wf.a ?_ ?_ BT.out.n ?_); rfl; rfl; intro w3 hn hg; have BT := hide (BT.out.put hn hg); have c0 : w3.cell? ⟨w.heap.size, 0, none⟩ = some (.int .i64 8) := BT.out.m.k1.trans (by rw [hk]); clear hn hg)
        | ((with_reducible refine wpList_store_lx (y := m.x) wf.x ?_ ?_ BT.out.n ?_); rfl; rfl; intro w3 hn hg; have BT := hide (BT.out.put hn hg); have c0 : w3.cell? ⟨w.heap.size, 0, none⟩ = some (.int .i64 8) := BT.out.m.k1.trans (by rw [hk]); clear hn hg)
        | ((with_reducible refine wpList_store_lz (z := m.z) ?_ ?_ BT.out.n ?_); rfl; rfl; intro w3 hn hg; have BT := hide (BT.out.put hn hg); have c0 : w3.cell? ⟨w.heap.size, 0, none⟩ = some (.int .i64 8) := BT.out.m.k1.trans (by rw [hk]); clear hn hg)
        | ((with_reducible refine wpList_store_ld (y := m.d) wf.d ?_ ?_ BT.out.n ?_); rfl; rfl; intro w3 hn hg; have BT := hide (BT.out.put hn hg); have c0 : w3.cell? ⟨w.heap.size, 0, none⟩ = some (.int .i64 8) := BT.out.m.k1.trans (by rw [hk]); clear hn hg)
        | (go_at_call 55; (with_reducible refine (hi1 _).mono ?_); rintro e w3 ⟨rfl, hb⟩; have BT := hide (BT.out.kept hb); have c0 : w3.cell? ⟨w.heap.size, 0, none⟩ = some (.int .i64 8) := BT.out.m.k1.trans (by rw [hk]); have c50 := BT.out.m.z; clear hb)
        | (go_at_call 38; (with_reducible refine (hi2 _).mono ?_); rintro e w3 ⟨rfl, hb⟩; have BT := hide (BT.out.kept hb); have c0 : w3.cell? ⟨w.heap.size, 0, none⟩ = some (.int .i64 8) := BT.out.m.k1.trans (by rw [hk]); have c50 := BT.out.m.z; clear hb)
        | (go_at_call 39; (with_reducible refine (hi3 _).mono ?_); rintro e w3 ⟨rfl, hb⟩; have BT := hide (BT.out.kept hb); have c0 : w3.cell? ⟨w.heap.size, 0, none⟩ = some (.int .i64 8) := BT.out.m.k1.trans (by rw [hk]); have c50 := BT.out.m.z; clear hb)
        | (go_at_call 40; (with_reducible refine (hi4 _).mono ?_); rintro e w3 ⟨rfl, hb⟩; have BT := hide (BT.out.kept hb); have c0 : w3.cell? ⟨w.heap.size, 0, none⟩ = some (.int .i64 8) := BT.out.m.k1.trans (by rw [hk]); have c50 := BT.out.m.z; clear hb)
        | (go_at_call 13; (with_reducible refine (hi5 _).mono ?_); rintro e w3 ⟨rfl, hb⟩; have BT := hide (BT.out.kept hb); have c0 : w3.cell? ⟨w.heap.size, 0, none⟩ = some (.int .i64 8) := BT.out.m.k1.trans (by rw [hk]); have c50 := BT.out.m.z; clear hb)
        | (go_at_call 56; (with_reducible refine (hi6 _).mono ?_); rintro e w3 ⟨rfl, hb⟩; have BT := hide (BT.out.kept hb); have c0 : w3.cell? ⟨w.heap.size, 0, none⟩ = some (.int .i64 8) := BT.out.m.k1.trans (by rw [hk]); have c50 := BT.out.m.z; clear hb))
          have e : ({ bare0 m.k m.f m.t with i := m.i, b := m.b } : Lt) = bareL m := by simp [bareL, bare0, nmI, nmB, nmC, nmA, nmX, nmD, nmZ, hk]
          have BT := hide (show Bt w w3 m (bareL m) g by rw [← e]; exact BT.out)
          clear e
          have heq := fun w => eql_letter BT.out.m.wf BT.out.n.wf w
          have c50 := BT.out.m.z
          go_wp2_with (first
        | ((with_reducible refine wpList_load_in ?_ ?_ BT.out.m.i ?_); rfl; rfl)
        | ((with_reducible refine wpList_load_bal ?_ ?_ BT.out.m.b1 ?_); rfl; rfl)
        | ((with_reducible refine wpList_load_cm ?_ ?_ BT.out.m.c ?_); rfl; rfl)
        | ((with_reducible refine wpList_load_at wf.a ?_ ?_ BT.out.m.a ?_); rfl; rfl)
        | ((with_reducible refine wpList_load_ce wf.x ?_ ?_ BT.out.m.x ?_); rfl; rfl)
        | ((with_reducible refine wpList_load_de wf.d ?_ ?_ BT.out.m.d ?_); rfl; rfl)
        | ((with_reducible refine wpList_store_li (p := m.i.1) (q := m.i.2) ?_ ?_ BT.out.n ?_); rfl; rfl; intro w3 hn hg; have BT := hide (BT.out.put hn hg); have c0 : w3.cell? ⟨w.heap.size, 0, none⟩ = some (.int .i64 8) := BT.out.m.k1.trans (by rw [hk]); clear hn hg)
        | ((with_reducible refine wpList_store_lb (p := m.b.1) (q := m.b.2) ?_ ?_ BT.out.n ?_); rfl; rfl; intro w3 hn hg; have BT := hide (BT.out.put hn hg); have c0 : w3.cell? ⟨w.heap.size, 0, none⟩ = some (.int .i64 8) := BT.out.m.k1.trans (by rw [hk]); clear hn hg)
        | ((with_reducible refine wpList_store_la (y := m.a) wf.a ?_ ?_ BT.out.n ?_); rfl; rfl; intro w3 hn hg; have BT := hide (BT.out.put hn hg); have c0 : w3.cell? ⟨w.heap.size, 0, none⟩ = some (.int .i64 8) := BT.out.m.k1.trans (by rw [hk]); clear hn hg)
        | ((with_reducible refine wpList_store_lx (y := m.x) wf.x ?_ ?_ BT.out.n ?_); rfl; rfl; intro w3 hn hg; have BT := hide (BT.out.put hn hg); have c0 : w3.cell? ⟨w.heap.size, 0, none⟩ = some (.int .i64 8) := BT.out.m.k1.trans (by rw [hk]); clear hn hg)
        | ((with_reducible refine wpList_store_lz (z := m.z) ?_ ?_ BT.out.n ?_); rfl; rfl; intro w3 hn hg; have BT := hide (BT.out.put hn hg); have c0 : w3.cell? ⟨w.heap.size, 0, none⟩ = some (.int .i64 8) := BT.out.m.k1.trans (by rw [hk]); clear hn hg)
        | ((with_reducible refine wpList_store_ld (y := m.d) wf.d ?_ ?_ BT.out.n ?_); rfl; rfl; intro w3 hn hg; have BT := hide (BT.out.put hn hg); have c0 : w3.cell? ⟨w.heap.size, 0, none⟩ = some (.int .i64 8) := BT.out.m.k1.trans (by rw [hk]); clear hn hg)
        | (go_at_call 55; (with_reducible refine (hi1 _).mono ?_); rintro e w3 ⟨rfl, hb⟩; have BT := hide (BT.out.kept hb); have c0 : w3.cell? ⟨w.heap.size, 0, none⟩ = some (.int .i64 8) := BT.out.m.k1.trans (by rw [hk]); have c50 := BT.out.m.z; clear hb)
        | (go_at_call 38; (with_reducible refine (hi2 _).mono ?_); rintro e w3 ⟨rfl, hb⟩; have BT := hide (BT.out.kept hb); have c0 : w3.cell? ⟨w.heap.size, 0, none⟩ = some (.int .i64 8) := BT.out.m.k1.trans (by rw [hk]); have c50 := BT.out.m.z; clear hb)
        | (go_at_call 39; (with_reducible refine (hi3 _).mono ?_); rintro e w3 ⟨rfl, hb⟩; have BT := hide (BT.out.kept hb); have c0 : w3.cell? ⟨w.heap.size, 0, none⟩ = some (.int .i64 8) := BT.out.m.k1.trans (by rw [hk]); have c50 := BT.out.m.z; clear hb)
        | (go_at_call 40; (with_reducible refine (hi4 _).mono ?_); rintro e w3 ⟨rfl, hb⟩; have BT := hide (BT.out.kept hb); have c0 : w3.cell? ⟨w.heap.size, 0, none⟩ = some (.int .i64 8) := BT.out.m.k1.trans (by rw [hk]); have c50 := BT.out.m.z; clear hb)
        | (go_at_call 13; (with_reducible refine (hi5 _).mono ?_); rintro e w3 ⟨rfl, hb⟩; have BT := hide (BT.out.kept hb); have c0 : w3.cell? ⟨w.heap.size, 0, none⟩ = some (.int .i64 8) := BT.out.m.k1.trans (by rw [hk]); have c50 := BT.out.m.z; clear hb)
        | (go_at_call 56; (with_reducible refine (hi6 _).mono ?_); rintro e w3 ⟨rfl, hb⟩; have BT := hide (BT.out.kept hb); have c0 : w3.cell? ⟨w.heap.size, 0, none⟩ = some (.int .i64 8) := BT.out.m.k1.trans (by rw [hk]); have c50 := BT.out.m.z; clear hb)
        | ((with_reducible refine wpList_load_lt BT.out.m.wf ?_ ?_ BT.out.m.all ?_); rfl; rfl)
        | ((with_reducible refine wpList_load_lt BT.out.n.wf ?_ ?_ BT.out.n.all ?_); rfl; rfl))
          all_goals (go_ret; refine ⟨ret_bool ?_, BT.out.old⟩; rw [rightLt_tail HC.out (fun _ => by rw [qi, qb]; rfl)]; clear hi1 hi2 hi3 hi4 hi5 hi6 heq c50; first | (simp [*]; done) | (simp [*]; omega))
    · have c0 : w2.cell? ⟨w.heap.size, 0, none⟩ = some (.int .i64 9) := BT.out.m.k1.trans (by rw [hk])
      go_upto_region 24 with (first
        | ((with_reducible refine wpList_load_in ?_ ?_ BT.out.m.i ?_); rfl; rfl)
        | ((with_reducible refine wpList_load_bal ?_ ?_ BT.out.m.b1 ?_); rfl; rfl)
        | ((with_reducible refine wpList_load_cm ?_ ?_ BT.out.m.c ?_); rfl; rfl)
        | ((with_reducible refine wpList_load_at wf.a ?_ ?_ BT.out.m.a ?_); rfl; rfl)
        | ((with_reducible refine wpList_load_ce wf.x ?_ ?_ BT.out.m.x ?_); rfl; rfl)
        | ((with_reducible refine wpList_load_de wf.d ?_ ?_ BT.out.m.d ?_); rfl; rfl)
        | ((with_reducible refine wpList_store_li (p := m.i.1) (q := m.i.2) ?_ ?_ BT.out.n ?_); rfl; rfl; intro w3 hn hg; have BT := hide (BT.out.put hn hg); have c0 : w3.cell? ⟨w.heap.size, 0, none⟩ = some (.int .i64 9) := BT.out.m.k1.trans (by rw [hk]); clear hn hg)
        | ((with_reducible refine wpList_store_lb (p := m.b.1) (q := m.b.2) ?_ ?_ BT.out.n ?_); rfl; rfl; intro w3 hn hg; have BT := hide (BT.out.put hn hg); have c0 : w3.cell? ⟨w.heap.size, 0, none⟩ = some (.int .i64 9) := BT.out.m.k1.trans (by rw [hk]); clear hn hg)
        | ((with_reducible refine wpList_store_la (y := m.a) wf.a ?_ ?_ BT.out.n ?_); rfl; rfl; intro w3 hn hg; have BT := hide (BT.out.put hn hg); have c0 : w3.cell? ⟨w.heap.size, 0, none⟩ = some (.int .i64 9) := BT.out.m.k1.trans (by rw [hk]); clear hn hg)
        | ((with_reducible refine wpList_store_lx (y := m.x) wf.x ?_ ?_ BT.out.n ?_); rfl; rfl; intro w3 hn hg; have BT := hide (BT.out.put hn hg); have c0 : w3.cell? ⟨w.heap.size, 0, none⟩ = some (.int .i64 9) := BT.out.m.k1.trans (by rw [hk]); clear hn hg)
        | ((with_reducible refine wpList_store_lz (z := m.z) ?_ ?_ BT.out.n ?_); rfl; rfl; intro w3 hn hg; have BT := hide (BT.out.put hn hg); have c0 : w3.cell? ⟨w.heap.size, 0, none⟩ = some (.int .i64 9) := BT.out.m.k1.trans (by rw [hk]); clear hn hg)
        | ((with_reducible refine wpList_store_ld (y := m.d) wf.d ?_ ?_ BT.out.n ?_); rfl; rfl; intro w3 hn hg; have BT := hide (BT.out.put hn hg); have c0 : w3.cell? ⟨w.heap.size, 0, none⟩ = some (.int .i64 9) := BT.out.m.k1.trans (by rw [hk]); clear hn hg)
        | (go_at_call 55; (with_reducible refine (hi1 _).mono ?_); rintro e w3 ⟨rfl, hb⟩; have BT := hide (BT.out.kept hb); have c0 : w3.cell? ⟨w.heap.size, 0, none⟩ = some (.int .i64 9) := BT.out.m.k1.trans (by rw [hk]); have c50 := BT.out.m.z; clear hb)
        | (go_at_call 38; (with_reducible refine (hi2 _).mono ?_); rintro e w3 ⟨rfl, hb⟩; have BT := hide (BT.out.kept hb); have c0 : w3.cell? ⟨w.heap.size, 0, none⟩ = some (.int .i64 9) := BT.out.m.k1.trans (by rw [hk]); have c50 := BT.out.m.z; clear hb)
        | (go_at_call 39; (with_reducible refine (hi3 _).mono ?_); rintro e w3 ⟨rfl, hb⟩; have BT := hide (BT.out.kept hb); have c0 : w3.cell? ⟨w.heap.size, 0, none⟩ = some (.int .i64 9) := BT.out.m.k1.trans (by rw [hk]); have c50 := BT.out.m.z; clear hb)
        | (go_at_call 40; (with_reducible refine (hi4 _).mono ?_); rintro e w3 ⟨rfl, hb⟩; have BT := hide (BT.out.kept hb); have c0 : w3.cell? ⟨w.heap.size, 0, none⟩ = some (.int .i64 9) := BT.out.m.k1.trans (by rw [hk]); have c50 := BT.out.m.z; clear hb)
        | (go_at_call 13; (with_reducible refine (hi5 _).mono ?_); rintro e w3 ⟨rfl, hb⟩; have BT := hide (BT.out.kept hb); have c0 : w3.cell? ⟨w.heap.size, 0, none⟩ = some (.int .i64 9) := BT.out.m.k1.trans (by rw [hk]); have c50 := BT.out.m.z; clear hb)
        | (go_at_call 56; (with_reducible refine (hi6 _).mono ?_); rintro e w3 ⟨rfl, hb⟩; have BT := hide (BT.out.kept hb); have c0 : w3.cell? ⟨w.heap.size, 0, none⟩ = some (.int .i64 9) := BT.out.m.k1.trans (by rw [hk]); have c50 := BT.out.m.z; clear hb))
      have e : ({ bare0 m.k m.f m.t with d := m.d } : Lt) = bareL m := by simp [bareL, bare0, nmI, nmB, nmC, nmA, nmX, nmD, nmZ, hk]
      have BT := hide (show Bt w w3 m (bareL m) g by rw [← e]; exact BT.out)
      clear e
      have heq := fun w => eql_letter BT.out.m.wf BT.out.n.wf w
      have c50 := BT.out.m.z
      go_wp2_with (first
        | ((with_reducible refine wpList_load_in ?_ ?_ BT.out.m.i ?_); rfl; rfl)
        | ((with_reducible refine wpList_load_bal ?_ ?_ BT.out.m.b1 ?_); rfl; rfl)
        | ((with_reducible refine wpList_load_cm ?_ ?_ BT.out.m.c ?_); rfl; rfl)
        | ((with_reducible refine wpList_load_at wf.a ?_ ?_ BT.out.m.a ?_); rfl; rfl)
        | ((with_reducible refine wpList_load_ce wf.x ?_ ?_ BT.out.m.x ?_); rfl; rfl)
        | ((with_reducible refine wpList_load_de wf.d ?_ ?_ BT.out.m.d ?_); rfl; rfl)
        | ((with_reducible refine wpList_store_li (p := m.i.1) (q := m.i.2) ?_ ?_ BT.out.n ?_); rfl; rfl; intro w3 hn hg; have BT := hide (BT.out.put hn hg); have c0 : w3.cell? ⟨w.heap.size, 0, none⟩ = some (.int .i64 9) := BT.out.m.k1.trans (by rw [hk]); clear hn hg)
        | ((with_reducible refine wpList_store_lb (p := m.b.1) (q := m.b.2) ?_ ?_ BT.out.n ?_); rfl; rfl; intro w3 hn hg; have BT := hide (BT.out.put hn hg); have c0 : w3.cell? ⟨w.heap.size, 0, none⟩ = some (.int .i64 9) := BT.out.m.k1.trans (by rw [hk]); clear hn hg)
        | ((with_reducible refine wpList_store_la (y := m.a) wf.a ?_ ?_ BT.out.n ?_); rfl; rfl; intro w3 hn hg; have BT := hide (BT.out.put hn hg); have c0 : w3.cell? ⟨w.heap.size, 0, none⟩ = some (.int .i64 9) := BT.out.m.k1.trans (by rw [hk]); clear hn hg)
        | ((with_reducible refine wpList_store_lx (y := m.x) wf.x ?_ ?_ BT.out.n ?_); rfl; rfl; intro w3 hn hg; have BT := hide (BT.out.put hn hg); have c0 : w3.cell? ⟨w.heap.size, 0, none⟩ = some (.int .i64 9) := BT.out.m.k1.trans (by rw [hk]); clear hn hg)
        | ((with_reducible refine wpList_store_lz (z := m.z) ?_ ?_ BT.out.n ?_); rfl; rfl; intro w3 hn hg; have BT := hide (BT.out.put hn hg); have c0 : w3.cell? ⟨w.heap.size, 0, none⟩ = some (.int .i64 9) := BT.out.m.k1.trans (by rw [hk]); clear hn hg)
        | ((with_reducible refine wpList_store_ld (y := m.d) wf.d ?_ ?_ BT.out.n ?_); rfl; rfl; intro w3 hn hg; have BT := hide (BT.out.put hn hg); have c0 : w3.cell? ⟨w.heap.size, 0, none⟩ = some (.int .i64 9) := BT.out.m.k1.trans (by rw [hk]); clear hn hg)
        | (go_at_call 55; (with_reducible refine (hi1 _).mono ?_); rintro e w3 ⟨rfl, hb⟩; have BT := hide (BT.out.kept hb); have c0 : w3.cell? ⟨w.heap.size, 0, none⟩ = some (.int .i64 9) := BT.out.m.k1.trans (by rw [hk]); have c50 := BT.out.m.z; clear hb)
        | (go_at_call 38; (with_reducible refine (hi2 _).mono ?_); rintro e w3 ⟨rfl, hb⟩; have BT := hide (BT.out.kept hb); have c0 : w3.cell? ⟨w.heap.size, 0, none⟩ = some (.int .i64 9) := BT.out.m.k1.trans (by rw [hk]); have c50 := BT.out.m.z; clear hb)
        | (go_at_call 39; (with_reducible refine (hi3 _).mono ?_); rintro e w3 ⟨rfl, hb⟩; have BT := hide (BT.out.kept hb); have c0 : w3.cell? ⟨w.heap.size, 0, none⟩ = some (.int .i64 9) := BT.out.m.k1.trans (by rw [hk]); have c50 := BT.out.m.z; clear hb)
        | (go_at_call 40; (with_reducible refine (hi4 _).mono ?_); rintro e w3 ⟨rfl, hb⟩; have BT := hide (BT.out.kept hb); have c0 : w3.cell? ⟨w.heap.size, 0, none⟩ = some (.int .i64 9) := BT.out.m.k1.trans (by rw [hk]); have c50 := BT.out.m.z; clear hb)
        | (go_at_call 13; (with_reducible refine (hi5 _).mono ?_); rintro e w3 ⟨rfl, hb⟩; have BT := hide (BT.out.kept hb); have c0 : w3.cell? ⟨w.heap.size, 0, none⟩ = some (.int .i64 9) := BT.out.m.k1.trans (by rw [hk]); have c50 := BT.out.m.z; clear hb)
        | (go_at_call 56; (with_reducible refine (hi6 _).mono ?_); rintro e w3 ⟨rfl, hb⟩; have BT := hide (BT.out.kept hb); have c0 : w3.cell? ⟨w.heap.size, 0, none⟩ = some (.int .i64 9) := BT.out.m.k1.trans (by rw [hk]); have c50 := BT.out.m.z; clear hb)
        | ((with_reducible refine wpList_load_lt BT.out.m.wf ?_ ?_ BT.out.m.all ?_); rfl; rfl)
        | ((with_reducible refine wpList_load_lt BT.out.n.wf ?_ ?_ BT.out.n.all ?_); rfl; rfl))
      all_goals (go_ret; refine ⟨ret_bool ?_, BT.out.old⟩; rw [rightLt_tail HC.out (by simp [nmI, hk])]; clear hi1 hi2 hi3 hi4 hi5 hi6 heq c50; first | (simp [*]; done) | (simp [*]; omega))
    · have c0 : w2.cell? ⟨w.heap.size, 0, none⟩ = some (.int .i64 10) := BT.out.m.k1.trans (by rw [hk])
      have c50 := BT.out.m.z
      go_upto_region 24 with (first
        | ((with_reducible refine wpList_load_in ?_ ?_ BT.out.m.i ?_); rfl; rfl)
        | ((with_reducible refine wpList_load_bal ?_ ?_ BT.out.m.b1 ?_); rfl; rfl)
        | ((with_reducible refine wpList_load_cm ?_ ?_ BT.out.m.c ?_); rfl; rfl)
        | ((with_reducible refine wpList_load_at wf.a ?_ ?_ BT.out.m.a ?_); rfl; rfl)
        | ((with_reducible refine wpList_load_ce wf.x ?_ ?_ BT.out.m.x ?_); rfl; rfl)
        | ((with_reducible refine wpList_load_de wf.d ?_ ?_ BT.out.m.d ?_); rfl; rfl)
        | ((with_reducible refine wpList_store_li (p := m.i.1) (q := m.i.2) ?_ ?_ BT.out.n ?_); rfl; rfl; intro w3 hn hg; have BT := hide (BT.out.put hn hg); have c0 : w3.cell? ⟨w.heap.size, 0, none⟩ = some (.int .i64 10) := BT.out.m.k1.trans (by rw [hk]); clear hn hg)
        | ((with_reducible refine wpList_store_lb (p := m.b.1) (q := m.b.2) ?_ ?_ BT.out.n ?_); rfl; rfl; intro w3 hn hg; have BT := hide (BT.out.put hn hg); have c0 : w3.cell? ⟨w.heap.size, 0, none⟩ = some (.int .i64 10) := BT.out.m.k1.trans (by rw [hk]); clear hn hg)
        | ((with_reducible refine wpList_store_la (y := m.a) wf.a ?_ ?_ BT.out.n ?_); rfl; rfl; intro w3 hn hg; have BT := hide (BT.out.put hn hg); have c0 : w3.cell? ⟨w.heap.size, 0, none⟩ = some (.int .i64 10) := BT.out.m.k1.trans (by rw [hk]); clear hn hg)
        | ((with_reducible refine wpList_store_lx (y := m.x) wf.x ?_ ?_ BT.out.n ?_); rfl; rfl; intro w3 hn hg; have BT := hide (BT.out.put hn hg); have c0 : w3.cell? ⟨w.heap.size, 0, none⟩ = some (.int .i64 10) := BT.out.m.k1.trans (by rw [hk]); clear hn hg)
        | ((with_reducible refine wpList_store_lz (z := m.z) ?_ ?_ BT.out.n ?_); rfl; rfl; intro w3 hn hg; have BT := hide (BT.out.put hn hg); have c0 : w3.cell? ⟨w.heap.size, 0, none⟩ = some (.int .i64 10) := BT.out.m.k1.trans (by rw [hk]); clear hn hg)
        | ((with_reducible refine wpList_store_ld (y := m.d) wf.d ?_ ?_ BT.out.n ?_); rfl; rfl; intro w3 hn hg; have BT := hide (BT.out.put hn hg); have c0 : w3.cell? ⟨w.heap.size, 0, none⟩ = some (.int .i64 10) := BT.out.m.k1.trans (by rw [hk]); clear hn hg)
        | (go_at_call 55; (with_reducible refine (hi1 _).mono ?_); rintro e w3 ⟨rfl, hb⟩; have BT := hide (BT.out.kept hb); have c0 : w3.cell? ⟨w.heap.size, 0, none⟩ = some (.int .i64 10) := BT.out.m.k1.trans (by rw [hk]); have c50 := BT.out.m.z; clear hb)
        | (go_at_call 38; (with_reducible refine (hi2 _).mono ?_); rintro e w3 ⟨rfl, hb⟩; have BT := hide (BT.out.kept hb); have c0 : w3.cell? ⟨w.heap.size, 0, none⟩ = some (.int .i64 10) := BT.out.m.k1.trans (by rw [hk]); have c50 := BT.out.m.z; clear hb)
        | (go_at_call 39; (with_reducible refine (hi3 _).mono ?_); rintro e w3 ⟨rfl, hb⟩; have BT := hide (BT.out.kept hb); have c0 : w3.cell? ⟨w.heap.size, 0, none⟩ = some (.int .i64 10) := BT.out.m.k1.trans (by rw [hk]); have c50 := BT.out.m.z; clear hb)
        | (go_at_call 40; (with_reducible refine (hi4 _).mono ?_); rintro e w3 ⟨rfl, hb⟩; have BT := hide (BT.out.kept hb); have c0 : w3.cell? ⟨w.heap.size, 0, none⟩ = some (.int .i64 10) := BT.out.m.k1.trans (by rw [hk]); have c50 := BT.out.m.z; clear hb)
        | (go_at_call 13; (with_reducible refine (hi5 _).mono ?_); rintro e w3 ⟨rfl, hb⟩; have BT := hide (BT.out.kept hb); have c0 : w3.cell? ⟨w.heap.size, 0, none⟩ = some (.int .i64 10) := BT.out.m.k1.trans (by rw [hk]); have c50 := BT.out.m.z; clear hb)
        | (go_at_call 56; (with_reducible refine (hi6 _).mono ?_); rintro e w3 ⟨rfl, hb⟩; have BT := hide (BT.out.kept hb); have c0 : w3.cell? ⟨w.heap.size, 0, none⟩ = some (.int .i64 10) := BT.out.m.k1.trans (by rw [hk]); have c50 := BT.out.m.z; clear hb))
      have e : ({ bare0 m.k m.f m.t with z := m.z } : Lt) = bareL m := by simp [bareL, bare0, nmI, nmB, nmC, nmA, nmX, nmD, nmZ, hk]
      have BT := hide (show Bt w w3 m (bareL m) g by rw [← e]; exact BT.out)
      clear e
      have heq := fun w => eql_letter BT.out.m.wf BT.out.n.wf w
      have c50 := BT.out.m.z
      go_wp2_with (first
        | ((with_reducible refine wpList_load_in ?_ ?_ BT.out.m.i ?_); rfl; rfl)
        | ((with_reducible refine wpList_load_bal ?_ ?_ BT.out.m.b1 ?_); rfl; rfl)
        | ((with_reducible refine wpList_load_cm ?_ ?_ BT.out.m.c ?_); rfl; rfl)
        | ((with_reducible refine wpList_load_at wf.a ?_ ?_ BT.out.m.a ?_); rfl; rfl)
        | ((with_reducible refine wpList_load_ce wf.x ?_ ?_ BT.out.m.x ?_); rfl; rfl)
        | ((with_reducible refine wpList_load_de wf.d ?_ ?_ BT.out.m.d ?_); rfl; rfl)
        | ((with_reducible refine wpList_store_li (p := m.i.1) (q := m.i.2) ?_ ?_ BT.out.n ?_); rfl; rfl; intro w3 hn hg; have BT := hide (BT.out.put hn hg); have c0 : w3.cell? ⟨w.heap.size, 0, none⟩ = some (.int .i64 10) := BT.out.m.k1.trans (by rw [hk]); clear hn hg)
        | ((with_reducible refine wpList_store_lb (p := m.b.1) (q := m.b.2) ?_ ?_ BT.out.n ?_); rfl; rfl; intro w3 hn hg; have BT := hide (BT.out.put hn hg); have c0 : w3.cell? ⟨w.heap.size, 0, none⟩ = some (.int .i64 10) := BT.out.m.k1.trans (by rw [hk]); clear hn hg)
        | ((with_reducible refine wpList_store_la (y := m.a) wf.a ?_ ?_ BT.out.n ?_); rfl; rfl; intro w3 hn hg; have BT := hide (BT.out.put hn hg); have c0 : w3.cell? ⟨w.heap.size, 0, none⟩ = some (.int .i64 10) := BT.out.m.k1.trans (by rw [hk]); clear hn hg)
        | ((with_reducible refine wpList_store_lx (y := m.x) wf.x ?_ ?_ BT.out.n ?_); rfl; rfl; intro w3 hn hg; have BT := hide (BT.out.put hn hg); have c0 : w3.cell? ⟨w.heap.size, 0, none⟩ = some (.int .i64 10) := BT.out.m.k1.trans (by rw [hk]); clear hn hg)
        | ((with_reducible refine wpList_store_lz (z := m.z) ?_ ?_ BT.out.n ?_); rfl; rfl; intro w3 hn hg; have BT := hide (BT.out.put hn hg); have c0 : w3.cell? ⟨w.heap.size, 0, none⟩ = some (.int .i64 10) := BT.out.m.k1.trans (by rw [hk]); clear hn hg)
        | ((with_reducible refine wpList_store_ld (y := m.d) wf.d ?_ ?_ BT.out.n ?_); rfl; rfl; intro w3 hn hg; have BT := hide (BT.out.put hn hg); have c0 : w3.cell? ⟨w.heap.size, 0, none⟩ = some (.int .i64 10) := BT.out.m.k1.trans (by rw [hk]); clear hn hg)
        | (go_at_call 55; (with_reducible refine (hi1 _).mono ?_); rintro e w3 ⟨rfl, hb⟩; have BT := hide (BT.out.kept hb); have c0 : w3.cell? ⟨w.heap.size, 0, none⟩ = some (.int .i64 10) := BT.out.m.k1.trans (by rw [hk]); have c50 := BT.out.m.z; clear hb)
        | (go_at_call 38; (with_reducible refine (hi2 _).mono ?_); rintro e w3 ⟨rfl, hb⟩; have BT := hide (BT.out.kept hb); have c0 : w3.cell? ⟨w.heap.size, 0, none⟩ = some (.int .i64 10) := BT.out.m.k1.trans (by rw [hk]); have c50 := BT.out.m.z; clear hb)
        | (go_at_call 39; (with_reducible refine (hi3 _).mono ?_); rintro e w3 ⟨rfl, hb⟩; have BT := hide (BT.out.kept hb); have c0 : w3.cell? ⟨w.heap.size, 0, none⟩ = some (.int .i64 10) := BT.out.m.k1.trans (by rw [hk]); have c50 := BT.out.m.z; clear hb)
        | (go_at_call 40; (with_reducible refine (hi4 _).mono ?_); rintro e w3 ⟨rfl, hb⟩; have BT := hide (BT.out.kept hb); have c0 : w3.cell? ⟨w.heap.size, 0, none⟩ = some (.int .i64 10) := BT.out.m.k1.trans (by rw [hk]); have c50 := BT.out.m.z; clear hb)
        | (go_at_call 13; (with_reducible refine (hi5 _).mono ?_); rintro e w3 ⟨rfl, hb⟩; have BT := hide (BT.out.kept hb); have c0 : w3.cell? ⟨w.heap.size, 0, none⟩ = some (.int .i64 10) := BT.out.m.k1.trans (by rw [hk]); have c50 := BT.out.m.z; clear hb)
        | (go_at_call 56; (with_reducible refine (hi6 _).mono ?_); rintro e w3 ⟨rfl, hb⟩; have BT := hide (BT.out.kept hb); have c0 : w3.cell? ⟨w.heap.size, 0, none⟩ = some (.int .i64 10) := BT.out.m.k1.trans (by rw [hk]); have c50 := BT.out.m.z; clear hb)
        | ((with_reducible refine wpList_load_lt BT.out.m.wf ?_ ?_ BT.out.m.all ?_); rfl; rfl)
        | ((with_reducible refine wpList_load_lt BT.out.n.wf ?_ ?_ BT.out.n.all ?_); rfl; rfl))
      all_goals (go_ret; refine ⟨ret_bool ?_, BT.out.old⟩; rw [rightLt_tail HC.out (by simp [nmI, hk])]; clear hi1 hi2 hi3 hi4 hi5 hi6 heq c50; first | (simp [*]; done) | (simp [*]; omega))
    · have c0 : w2.cell? ⟨w.heap.size, 0, none⟩ = some (.int .i64 11) := BT.out.m.k1.trans (by rw [hk])
      go_upto_region 24 with (first
        | ((with_reducible refine wpList_load_in ?_ ?_ BT.out.m.i ?_); rfl; rfl)
        | ((with_reducible refine wpList_load_bal ?_ ?_ BT.out.m.b1 ?_); rfl; rfl)
        | ((with_reducible refine wpList_load_cm ?_ ?_ BT.out.m.c ?_); rfl; rfl)
        | ((with_reducible refine wpList_load_at wf.a ?_ ?_ BT.out.m.a ?_); rfl; rfl)
        | ((with_reducible refine wpList_load_ce wf.x ?_ ?_ BT.out.m.x ?_); rfl; rfl)
        | ((with_reducible refine wpList_load_de wf.d ?_ ?_ BT.out.m.d ?_); rfl; rfl)
        | ((with_reducible refine wpList_store_li (p := m.i.1) (q := m.i.2) ?_ ?_ BT.out.n ?_); rfl; rfl; intro w3 hn hg; have BT := hide (BT.out.put hn hg); have c0 : w3.cell? ⟨w.heap.size, 0, none⟩ = some (.int .i64 11) := BT.out.m.k1.trans (by rw [hk]); clear hn hg)
        | ((with_reducible refine wpList_store_lb (p := m.b.1) (q := m.b.2) ?_ ?_ BT.out.n ?_); rfl; rfl; intro w3 hn hg; have BT := hide (BT.out.put hn hg); have c0 : w3.cell? ⟨w.heap.size, 0, none⟩ = some (.int .i64 11) := BT.out.m.k1.trans (by rw [hk]); clear hn hg)
        | ((with_reducible refine wpList_store_la (y := m.a) wf.a ?_ ?_ BT.out.n ?_); rfl; rfl; intro w3 hn hg; have BT := hide (BT.out.put hn hg); have c0 : w3.cell? ⟨w.heap.size, 0, none⟩ = some (.int .i64 11) := BT.out.m.k1.trans (by rw [hk]); clear hn hg)
        | ((with_reducible refine wpList_store_lx (y := m.x) wf.x ?_ ?_ BT.out.n ?_); rfl; rfl; intro w3 hn hg; have BT := hide (BT.out.put hn hg); have c0 : w3.cell? ⟨w.heap.size, 0, none⟩ = some (.int .i64 11) := BT.out.m.k1.trans (by rw [hk]); clear hn hg)
        | ((with_reducible refine wpList_store_lz (z := m.z) ?_ ?_ BT.out.n ?_); rfl; rfl; intro w3 hn hg; have BT := hide (BT.out.put hn hg); have c0 : w3.cell? ⟨w.heap.size, 0, none⟩ = some (.int .i64 11) := BT.out.m.k1.trans (by rw [hk]); clear hn hg)
        | ((with_reducible refine wpList_store_ld (y := m.d) wf.d ?_ ?_ BT.out.n ?_); rfl; rfl; intro w3 hn hg; have BT := hide (BT.out.put hn hg); have c0 : w3.cell? ⟨w.heap.size, 0, none⟩ = some (.int .i64 11) := BT.out.m.k1.trans (by rw [hk]); clear hn hg)
        | (go_at_call 55; (with_reducible refine (hi1 _).mono ?_); rintro e w3 ⟨rfl, hb⟩; have BT := hide (BT.out.kept hb); have c0 : w3.cell? ⟨w.heap.size, 0, none⟩ = some (.int .i64 11) := BT.out.m.k1.trans (by rw [hk]); have c50 := BT.out.m.z; clear hb)
        | (go_at_call 38; (with_reducible refine (hi2 _).mono ?_); rintro e w3 ⟨rfl, hb⟩; have BT := hide (BT.out.kept hb); have c0 : w3.cell? ⟨w.heap.size, 0, none⟩ = some (.int .i64 11) := BT.out.m.k1.trans (by rw [hk]); have c50 := BT.out.m.z; clear hb)
        | (go_at_call 39; (with_reducible refine (hi3 _).mono ?_); rintro e w3 ⟨rfl, hb⟩; have BT := hide (BT.out.kept hb); have c0 : w3.cell? ⟨w.heap.size, 0, none⟩ = some (.int .i64 11) := BT.out.m.k1.trans (by rw [hk]); have c50 := BT.out.m.z; clear hb)
        | (go_at_call 40; (with_reducible refine (hi4 _).mono ?_); rintro e w3 ⟨rfl, hb⟩; have BT := hide (BT.out.kept hb); have c0 : w3.cell? ⟨w.heap.size, 0, none⟩ = some (.int .i64 11) := BT.out.m.k1.trans (by rw [hk]); have c50 := BT.out.m.z; clear hb)
        | (go_at_call 13; (with_reducible refine (hi5 _).mono ?_); rintro e w3 ⟨rfl, hb⟩; have BT := hide (BT.out.kept hb); have c0 : w3.cell? ⟨w.heap.size, 0, none⟩ = some (.int .i64 11) := BT.out.m.k1.trans (by rw [hk]); have c50 := BT.out.m.z; clear hb)
        | (go_at_call 56; (with_reducible refine (hi6 _).mono ?_); rintro e w3 ⟨rfl, hb⟩; have BT := hide (BT.out.kept hb); have c0 : w3.cell? ⟨w.heap.size, 0, none⟩ = some (.int .i64 11) := BT.out.m.k1.trans (by rw [hk]); have c50 := BT.out.m.z; clear hb))
      have e : ({ bare0 m.k m.f m.t with d := m.d } : Lt) = bareL m := by simp [bareL, bare0, nmI, nmB, nmC, nmA, nmX, nmD, nmZ, hk]
      have BT := hide (show Bt w w3 m (bareL m) g by rw [← e]; exact BT.out)
      clear e
      have heq := fun w => eql_letter BT.out.m.wf BT.out.n.wf w
      have c50 := BT.out.m.z
      go_wp2_with (first
        | ((with_reducible refine wpList_load_in ?_ ?_ BT.out.m.i ?_); rfl; rfl)
        | ((with_reducible refine wpList_load_bal ?_ ?_ BT.out.m.b1 ?_); rfl; rfl)
        | ((with_reducible refine wpList_load_cm ?_ ?_ BT.out.m.c ?_); rfl; rfl)
        | ((with_reducible refine wpList_load_at wf.a ?_ ?_ BT.out.m.a ?_); rfl; rfl)
        | ((with_reducible refine wpList_load_ce wf.x ?_ ?_ BT.out.m.x ?_); rfl; rfl)
        | ((with_reducible refine wpList_load_de wf.d ?_ ?_ BT.out.m.d ?_); rfl; rfl)
        | ((with_reducible refine wpList_store_li (p := m.i.1) (q := m.i.2) ?_ ?_ BT.out.n ?_); rfl; rfl; intro w3 hn hg; have BT := hide (BT.out.put hn hg); have c0 : w3.cell? ⟨w.heap.size, 0, none⟩ = some (.int .i64 11) := BT.out.m.k1.trans (by rw [hk]); clear hn hg)
        | ((with_reducible refine wpList_store_lb (p := m.b.1) (q := m.b.2) ?_ ?_ BT.out.n ?_); rfl; rfl; intro w3 hn hg; have BT := hide (BT.out.put hn hg); have c0 : w3.cell? ⟨w.heap.size, 0, none⟩ = some (.int .i64 11) := BT.out.m.k1.trans (by rw [hk]); clear hn hg)
        | ((with_reducible refine wpList_store_la (y := m.a) wf.a ?_ ?_ BT.out.n ?_); rfl; rfl; intro w3 hn hg; have BT := hide (BT.out.put hn hg); have c0 : w3.cell? ⟨w.heap.size, 0, none⟩ = some (.int .i64 11) := BT.out.m.k1.trans (by rw [hk]); clear hn hg)
        | ((with_reducible refine wpList_store_lx (y := m.x) wf.x ?_ ?_ BT.out.n ?_); rfl; rfl; intro w3 hn hg; have BT := hide (BT.out.put hn hg); have c0 : w3.cell? ⟨w.heap.size, 0, none⟩ = some (.int .i64 11) := BT.out.m.k1.trans (by rw [hk]); clear hn hg)
        | ((with_reducible refine wpList_store_lz (z := m.z) ?_ ?_ BT.out.n ?_); rfl; rfl; intro w3 hn hg; have BT := hide (BT.out.put hn hg); have c0 : w3.cell? ⟨w.heap.size, 0, none⟩ = some (.int .i64 11) := BT.out.m.k1.trans (by rw [hk]); clear hn hg)
        | ((with_reducible refine wpList_store_ld (y := m.d) wf.d ?_ ?_ BT.out.n ?_); rfl; rfl; intro w3 hn hg; have BT := hide (BT.out.put hn hg); have c0 : w3.cell? ⟨w.heap.size, 0, none⟩ = some (.int .i64 11) := BT.out.m.k1.trans (by rw [hk]); clear hn hg)
        | (go_at_call 55; (with_reducible refine (hi1 _).mono ?_); rintro e w3 ⟨rfl, hb⟩; have BT := hide (BT.out.kept hb); have c0 : w3.cell? ⟨w.heap.size, 0, none⟩ = some (.int .i64 11) := BT.out.m.k1.trans (by rw [hk]); have c50 := BT.out.m.z; clear hb)
        | (go_at_call 38; (with_reducible refine (hi2 _).mono ?_); rintro e w3 ⟨rfl, hb⟩; have BT := hide (BT.out.kept hb); have c0 : w3.cell? ⟨w.heap.size, 0, none⟩ = some (.int .i64 11) := BT.out.m.k1.trans (by rw [hk]); have c50 := BT.out.m.z; clear hb)
        | (go_at_call 39; (with_reducible refine (hi3 _).mono ?_); rintro e w3 ⟨rfl, hb⟩; have BT := hide (BT.out.kept hb); have c0 : w3.cell? ⟨w.heap.size, 0, none⟩ = some (.int .i64 11) := BT.out.m.k1.trans (by rw [hk]); have c50 := BT.out.m.z; clear hb)
        | (go_at_call 40; (with_reducible refine (hi4 _).mono ?_); rintro e w3 ⟨rfl, hb⟩; have BT := hide (BT.out.kept hb); have c0 : w3.cell? ⟨w.heap.size, 0, none⟩ = some (.int .i64 11) := BT.out.m.k1.trans (by rw [hk]); have c50 := BT.out.m.z; clear hb)
        | (go_at_call 13; (with_reducible refine (hi5 _).mono ?_); rintro e w3 ⟨rfl, hb⟩; have BT := hide (BT.out.kept hb); have c0 : w3.cell? ⟨w.heap.size, 0, none⟩ = some (.int .i64 11) := BT.out.m.k1.trans (by rw [hk]); have c50 := BT.out.m.z; clear hb)
        | (go_at_call 56; (with_reducible refine (hi6 _).mono ?_); rintro e w3 ⟨rfl, hb⟩; have BT := hide (BT.out.kept hb); have c0 : w3.cell? ⟨w.heap.size, 0, none⟩ = some (.int .i64 11) := BT.out.m.k1.trans (by rw [hk]); have c50 := BT.out.m.z; clear hb)
        | ((with_reducible refine wpList_load_lt BT.out.m.wf ?_ ?_ BT.out.m.all ?_); rfl; rfl)
        | ((with_reducible refine wpList_load_lt BT.out.n.wf ?_ ?_ BT.out.n.all ?_); rfl; rfl))
      all_goals (go_ret; refine ⟨ret_bool ?_, BT.out.old⟩; rw [rightLt_tail HC.out (by simp [nmI, hk])]; clear hi1 hi2 hi3 hi4 hi5 hi6 heq c50; first | (simp [*]; done) | (simp [*]; omega))
  · go_enter Try.func17, Try.ntmps17
    go_upto_region 1 with (fail)
    generalize w.alloc (.cells (ltC m) 37) = w1 at L0 HB ⊢
    have c0 := L0.out.k1
    have c1 := L0.out.f1
    have c2 := L0.out.t1
    go_upto_region 3 with (fail)
    all_goals first
      | (go_ret; exact ⟨ret_bool (by rw [rightLt_bad hC]), HB.out⟩)
      | (unfold Hd at hC; clear c0 c1 c2 L0 HB; exfalso; simp only [beq_eq_false_iff_ne, ne_eq] at *; omega)
end Go.Proofs.Ytlnpfaoeockoiaa
