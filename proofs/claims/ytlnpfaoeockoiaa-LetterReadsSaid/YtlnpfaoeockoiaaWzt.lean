/- The document's getAttr, getCommand. Conditions: the reader lies in memory as it must. -/
import Derived.Test.YtlnpfaoeockoiaaWk
import Derived.Test.YtlnpfaoeockoiaaWe
namespace Go.Proofs.Ytlnpfaoeockoiaa
set_option maxRecDepth 100000
open Go.RowKit
/-- While a struct is read: the answer's block at r, the struct's at h. -/
structure Zr (t T : TypeId) (W w : World) (B g : Nat) (zs : List Int) (i : Nat) (e : Int) (r h : Nat) (zc cs : Array Value) : Prop where
  k : Rg t W w B g zs i e
  z : Row w r T zc
  c : Row w h T cs
  lr : W.heap.size ≤ r
  lh : r < h
section
variable {t T : TypeId} {W w w' : World} {B g i i' r h : Nat} {zs : List Int} {e e' : Int} {zc cs cs' : Array Value}
theorem Zr.step (s : Zr t T W w B g zs i e r h zc cs) (hr : Rdr t w' B g zs i' e') (hg : w.grownBy w' (some g)) : Zr t T W w' B g zs i' e' r h zc cs :=
  have h1 := s.k.lt
  have h2 := s.lr
  have h3 := s.lh
  ⟨s.k.step hr hg, s.z.grown hg (ne_some (by omega)), s.c.grown hg (ne_some (by omega)), s.lr, s.lh⟩
theorem Zr.quiet (s : Zr t T W w B g zs i e r h zc cs) (hb : Below w.heap.size w w') : Zr t T W w' B g zs i e r h zc cs := ⟨s.k.quiet hb, s.z.below hb s.z.lt, s.c.below hb s.c.lt, s.lr, s.lh⟩
theorem Zr.put (s : Zr t T W w B g zs i e r h zc cs) (hc : Row w' h T cs') (hg : w.grownBy w' (some h)) : Zr t T W w' B g zs i e r h zc cs' :=
  have h2 := s.lr
  have h3 := s.lh
  ⟨s.k.put hg (by omega), s.z.grown hg (ne_some (by omega)), hc, s.lr, s.lh⟩
theorem Zr.start (s : Rg t W w B g zs i e) (hz : Row w r T zc) (lr : W.heap.size ≤ r) (cs : Array Value) : Zr t T W (w.alloc (.cells cs T)) B g zs i e r w.heap.size zc cs :=
  ⟨s.alloc _, hz.below ((Below.refl _ _).alloc (Nat.le_refl _) _) hz.lt, Row.new w T cs, lr, hz.lt⟩
theorem Zr.wrong (s : Zr t T W w B g zs i e r h zc cs) : Zr t T W (w.setCell ⟨g, 2, none⟩ (.int .i64 4)) B g zs i 4 r h zc cs := s.step (s.k.r.wrong (by omega)) (grown_set1 _ _ _ _)
theorem Rdr.err2 (s : Rdr t w B g zs i e) : w.cell? ⟨g, 2, none⟩ = some (.int .i64 e) ∧ w.frozen? ⟨g, 2, none⟩ = false := by
  obtain ⟨A, c, _, _, h2, _, h4, _⟩ := s.cells
  exact ⟨h2, h4⟩
end
section
variable {ops : Array Oper} {rest : List Oper} {d : Option Tmp} {ty : TypeId} {ps : String} {af : Array Edge} {x u : Operand} {a : Act} {w : World} {Q : Exit → Act → World → Prop} {b j : Nat} {t : TypeId} {cs : Array Value}
theorem wpList_store_ri {n : Int} (hj : j < cs.size) (hx : a.eval x = .pointer (some ⟨b, j, none⟩)) (hy : a.eval u = .int .i64 n) (R : Row w b t cs) (h : ∀ w', Row w' b t (cs.setIfInBounds j (.int .i64 n)) → w.grownBy w' (some b) → wpList Try.prog ops Q rest (a.put d undef) w') :
    wpList Try.prog ops Q ({ dst := d, op := .store 3 x u, type := ty, pos := ps, after := af, guard := none } :: rest) a w :=
  wpList_plain rfl fun K hK => by
    have hz : w.cell? ⟨b, j, none⟩ = some cs[j] := by rw [R.cell, Array.getElem?_eq_getElem hj]
    have hf := R.free j
    have h2 := hK _ _ (h _ (R.put j _) (grown_set1 w b j _))
    unfold Oper.wp execOp
    simp only [hx, hy]
    go_simp
    exact h2
theorem wpList_store_rs {n : ByteArray} (hj : j < cs.size) (hx : a.eval x = .pointer (some ⟨b, j, none⟩)) (hy : a.eval u = .string n) (R : Row w b t cs) (h : ∀ w', Row w' b t (cs.setIfInBounds j (.string n)) → w.grownBy w' (some b) → wpList Try.prog ops Q rest (a.put d undef) w') :
    wpList Try.prog ops Q ({ dst := d, op := .store 9 x u, type := ty, pos := ps, after := af, guard := none } :: rest) a w :=
  wpList_plain rfl fun K hK => by
    have hz : w.cell? ⟨b, j, none⟩ = some cs[j] := by rw [R.cell, Array.getElem?_eq_getElem hj]
    have hf := R.free j
    have h2 := hK _ _ (h _ (R.put j _) (grown_set1 w b j _))
    unfold Oper.wp execOp
    simp only [hx, hy]
    go_simp
    exact h2
/-- A whole struct is stored. -/
theorem wpList_store_rw {T : TypeId} {vs : List Value} (hi : (Try.prog.info? T).map (·.size) = some vs.length) (hs : cs.size = vs.length) (h1 : ∀ v, v ∈ vs → v.oneCell' = true) (hx : a.eval x = .pointer (some ⟨b, 0, none⟩)) (hy : a.eval u = .agg vs.toArray) (R : Row w b t cs)
    (h : ∀ w', Row w' b t vs.toArray → w.grownBy w' (some b) → wpList Try.prog ops Q rest (a.put d undef) w') :
    wpList Try.prog ops Q ({ dst := d, op := .store T x u, type := ty, pos := ps, after := af, guard := none } :: rest) a w :=
  wpList_plain rfl fun K hK => by
    have hth : w.there b 0 vs.toArray.size := fun j hj => ⟨by rw [R.cell, Array.getElem?_eq_getElem (by rw [List.size_toArray] at hj; omega)]; rfl, R.free _⟩
    refine wp_store_mid T x u rfl b 0 vs.toArray hx hy hth (by rw [List.size_toArray]; exact hi) (all_oneCell_toArray h1) ?_
    refine hK _ _ (h _ ?_ (grown_setCells b vs 0 w))
    have hr := Row.puts vs 0 R
    have e := puts_mid vs cs.toList [] [] (by rw [Array.length_toList]; exact hs.symm)
    simp only [List.nil_append, List.append_nil, List.length_nil] at e
    rw [show cs.toList.toArray = cs by simp] at e
    rw [e] at hr
    exact hr
end
theorem fill_a0 (n : Int) (w : World) : (Instr.build 33 #[(0, .int .i64 n)]).run Try.prog w = .ok (.agg (cA [n, 0, 0, 0, 0, 0, 0, 0])) w := by kernel_rfl
theorem at_info8 {l : List Int} (h : l.length = 8) : (Try.prog.info? 33).map (·.size) = some (cA l).size := by rw [show (cA l).size = l.length by unfold cA; rw [List.size_toArray, length_cellsR], h]; exact at_info
theorem cA_all (l : List Int) : (cA l).all (·.oneCell') = true := all_oneCell_toArray one_ints
theorem cA_size (l : List Int) : (cA l).size = l.length := by unfold cA; rw [List.size_toArray, length_cellsR]
theorem cA_set (l : List Int) (j : Nat) (n : Int) : (cA l).setIfInBounds j (.int .i64 n) = cA (l.set j n) := by
  unfold cA cellsR
  rw [List.setIfInBounds_toArray, List.map_set]
theorem zero_at : (#[.int .i64 0, .int .i64 0, .int .i64 0, .int .i64 0, .int .i64 0, .int .i64 0, .int .i64 0, .int .i64 0] : Array Value) = cA zero8 := rfl
theorem results_al {fn : Func} {tmps : Array Value} {w : World} {a h : Nat} {t : TypeId} {l : List Int} (hf : fn.results = #[.cell a 33]) (ht : tmps.getD a undef = .pointer (some ⟨h, 0, none⟩)) (R : Row w h t (cA l)) (h8 : l.length = 8) :
    (results fn tmps).run Try.prog w = .ok (.agg (cA l)) w :=
  results_cell_row hf tmps w h t _ _ _ ht R at_under rfl (at_info8 h8)
theorem cA_range {w : World} {g : Nat} {t : TypeId} {l : List Int} (h : Row w g t (cA l)) : w.rangeAt g 0 (cellsR l) := h.mid (A := []) (ys := cellsR l) (B := []) (by unfold cA; simp) rfl
set_option maxHeartbeats 16000000 in
theorem rattr_g {w : World} {B g i : Nat} {zs : List Int} {e : Int} (h : Rdr 59 w B g zs i e) :
    Calls Try.prog 65 #[.pointer (some ⟨g, 0, none⟩)] w (ReadG 59 w B g zs (fun a => .agg (cA a)) (dAt zs i) e (fun a _ => a.length = 8)) := by
  have S0 := hide ((Rg.start h).alloc (.cells (cA zero8) 33))
  have HA := hide (Row.new w 33 (cA zero8))
  have hlt := h.lt
  have HNE := hide (ne_some (show w.heap.size ≠ g by omega))
  have HG := hide (got_nums zs 8 i e)
  clear h hlt
  go_enter Try.func65, Try.ntmps65
  go_upto_region 1 with (fail)
  rw [zero_at]
  generalize w.alloc (.cells (cA zero8) 33) = w0 at S0 HA ⊢
  have HN := hide (rnum_to S0.out.r)
  go_upto_region 2 with (first
    | (go_at_call 61; (with_reducible refine HN.out.mono ?_); rintro x w1 ⟨rfl, hr, hg⟩; have S0 := hide (S0.out.step hr hg); have HA := hide (HA.out.grown hg HNE.out); clear hr hg HN)
    | ((with_reducible refine wpList_build_one (i := 0) (u := .int .i64 (rNumV zs i e)) ?_ ?_ (fill_a0 _ _) ?_); rfl; rfl)
    | ((with_reducible refine wpList_store_new (vs := cA [rNumV zs i e, 0, 0, 0, 0, 0, 0, 0]) ?_ ?_ (cA_all _) ?_ ?_ ?_); exact at_info; rfl; rfl; rfl))
  try simp only [Act.put]
  have ZR := hide (show Zr 59 33 w (w1.alloc (.cells (cA [rNumV zs i e, 0, 0, 0, 0, 0, 0, 0]) 33)) B g zs (stN zs i e (1 + 0)).1 (stN zs i e (1 + 0)).2 w.heap.size w1.heap.size (cA zero8) (cA (fillD zs i e 8 (1 + 0))) from Zr.start S0.out HA.out (Nat.le_refl _) _)
  clear S0 HA HNE
  generalize w1.alloc (.cells (cA _) 33) = w2 at ZR ⊢
  generalize w1.heap.size = h at ZR ⊢
  go_wp2
  go_loopw [4] (fun j wr => ∃ n : Nat, n ≤ 7 ∧ j = .int .i64 n ∧ Hid (Zr 59 33 w wr B g zs (stN zs i e (1 + n)).1 (stN zs i e (1 + n)).2 w.heap.size h (cA zero8) (cA (fillD zs i e 8 (1 + n))))) (fun j _ => 7 - (intOf j).toNat)
  case atStart => exact ⟨0, by omega, rfl, ZR⟩
  case round =>
    clear ZR
    obtain ⟨n, hn, rfl, ZR⟩ := hrel
    by_cases hlt : n < 7
    · have HN := hide (rnum_to ZR.out.k.r)
      have n7 : (n : Int) < 7 := by omega
      have n0 : (0 : Int) ≤ (n : Int) := by omega
      have HS := hide (fillD_set (zs := zs) (i := i) (e := e) (n := 8) (j := 1 + n) (by omega))
      have HL := hide (show 1 + n < (cA (fillD zs i e 8 (1 + n))).size by rw [cA_size, fillD_len (by omega)]; omega)
      have HP := hide (fun (w' : World) (R : Row w' h 33 ((cA (fillD zs i e 8 (1 + n))).setIfInBounds (1 + n) (.int .i64 (valN zs i e (1 + n))))) => (show Row w' h 33 (cA (fillD zs i e 8 (1 + (n + 1)))) from by rw [cA_set, HS.out] at R; exact R))
      go_wp2_with (first
        | (go_at_call 61; (with_reducible refine HN.out.mono ?_); rintro x w3 ⟨rfl, hr, hg⟩; have ZR := hide (ZR.out.step hr hg); clear hr hg HN)
        | ((with_reducible refine wpList_store_ri (j := 1 + n) (n := rNumV zs (stN zs i e (1 + n)).1 (stN zs i e (1 + n)).2) HL.out ?_ ?_ ZR.out.c ?_); rfl; rfl; intro w4 hn hg; have ZR := hide (ZR.out.put (HP.out _ hn) hg); clear hn hg))
      have ZR2 := hide (show Zr 59 33 w w4 B g zs (stN zs i e (1 + (n + 1))).1 (stN zs i e (1 + (n + 1))).2 w.heap.size h (cA zero8) (cA (fillD zs i e 8 (1 + (n + 1)))) from by rw [show 1 + (n + 1) = (1 + n) + 1 by omega, stN_last]; exact ZR.out)
      clear ZR HS HL HP
      go_roundw
      case rel => exact ⟨n + 1, by omega, by go_num, ZR2⟩
      case measure => simp [intOf]; omega
    · obtain rfl : n = 7 := by omega
      have n7 : ¬ (((7 : Nat) : Int) < 7) := by omega
      have h8 : (valsN zs i e 8).length = 8 := valsN_len zs 8 i e
      have ZR := hide (show Zr 59 33 w wr B g zs (stN zs i e 8).1 (stN zs i e 8).2 w.heap.size h (cA zero8) (cA (valsN zs i e 8)) from by have := ZR.out; rw [show 1 + 7 = 8 from rfl, fillD_all] at this; exact this)
      have hG : Got (dAt zs i) e (valsN zs i e 8) (stN zs i e 8).1 (if rightAl (valsN zs i e 8) then (stN zs i e 8).2 else rFailE (stN zs i e 8).2) := HG.out.chk rightAl
      clear HG
      generalize valsN zs i e 8 = a at ZR h8 hG
      generalize (stN zs i e 8).1 = i8 at ZR hG
      generalize (stN zs i e 8).2 = e8 at ZR hG
      have HR := fun w => rright_al h8 w
      obtain ⟨c2, f2⟩ := ZR.out.k.r.err2
      by_cases he : e8 = 0
      · subst he
        cases hq : rightAl a
        · simp only [hq, Bool.false_eq_true, if_false] at HR hG
          have HGG := hide (show Got (dAt zs i) e a i8 4 from hG)
          clear hG hq
          go_upto_region 7 with (first
            | ((with_reducible refine wpList_load_at h8 ?_ ?_ (cA_range ZR.out.c) ?_); rfl; rfl)
            | (go_at_call 40; (with_reducible refine (HR _).mono ?_); rintro x w5 ⟨rfl, hb⟩; have ZR := hide (ZR.out.quiet hb); clear hb))
          clear c2 f2
          obtain ⟨c2, f2⟩ := ZR.out.k.r.err2
          have ZR := hide ZR.out.wrong
          go_upto_region 8 with (fail)
          clear c2 f2
          generalize w5.setCell _ _ = w6 at ZR ⊢
          go_wp2_with (first
            | ((with_reducible refine wpList_load_at h8 ?_ ?_ (cA_range ZR.out.c) ?_); rfl; rfl)
            | ((with_reducible refine wpList_store_rw (vs := cellsR a) ?_ ?_ one_ints ?_ ?_ ZR.out.z ?_); rw [length_cellsR, h8]; exact at_info; rw [length_cellsR, h8]; rfl; rfl; rfl; intro w7 hn hg; have HF := hide (And.intro hn (ZR.out.k.put hg ZR.out.lr)); clear hn hg))
          exact bodyPost_ret (results_al Try.results65 rfl HF.out.1 h8) rfl (readG_of rfl HF.out.2 HGG.out h8)
        · simp only [hq, if_true] at HR hG
          have HGG := hide hG
          clear hG hq
          go_upto_region 8 with (first
            | ((with_reducible refine wpList_load_at h8 ?_ ?_ (cA_range ZR.out.c) ?_); rfl; rfl)
            | (go_at_call 40; (with_reducible refine (HR _).mono ?_); rintro x w5 ⟨rfl, hb⟩; have ZR := hide (ZR.out.quiet hb); clear hb))
          clear c2 f2
          go_wp2_with (first
            | ((with_reducible refine wpList_load_at h8 ?_ ?_ (cA_range ZR.out.c) ?_); rfl; rfl)
            | ((with_reducible refine wpList_store_rw (vs := cellsR a) ?_ ?_ one_ints ?_ ?_ ZR.out.z ?_); rw [length_cellsR, h8]; exact at_info; rw [length_cellsR, h8]; rfl; rfl; rfl; intro w7 hn hg; have HF := hide (And.intro hn (ZR.out.k.put hg ZR.out.lr)); clear hn hg))
          exact bodyPost_ret (results_al Try.results65 rfl HF.out.1 h8) rfl (readG_of rfl HF.out.2 HGG.out h8)
      · have t0 : (e8 == 0) = false := by simpa using he
        have HGG := hide (show Got (dAt zs i) e a i8 e8 from by
          have : rFailE e8 = e8 := by unfold rFailE; rw [if_neg he]
          rw [this] at hG
          split at hG <;> exact hG)
        clear he hG
        go_upto_region 8 with (fail)
        clear c2 f2
        go_wp2_with (first
          | ((with_reducible refine wpList_load_at h8 ?_ ?_ (cA_range ZR.out.c) ?_); rfl; rfl)
          | ((with_reducible refine wpList_store_rw (vs := cellsR a) ?_ ?_ one_ints ?_ ?_ ZR.out.z ?_); rw [length_cellsR, h8]; exact at_info; rw [length_cellsR, h8]; rfl; rfl; rfl; intro w7 hn hg; have HF := hide (And.intro hn (ZR.out.k.put hg ZR.out.lr)); clear hn hg))
        exact bodyPost_ret (results_al Try.results65 rfl HF.out.1 h8) rfl (readG_of rfl HF.out.2 HGG.out h8)
end Go.Proofs.Ytlnpfaoeockoiaa
