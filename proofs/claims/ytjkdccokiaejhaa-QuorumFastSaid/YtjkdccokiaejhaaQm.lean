/- The program's committed and latest. Conditions: what was said lies in memory, at most a thousand; the cells' attributes are eight numbers. -/
import Derived.Test.YtjkdccokiaejhaaQj
import Derived.Test.YtjkdccokiaejhaaQa
import Derived.LoopTactic
namespace Go.Proofs.Ytjkdccokiaejhaa
set_option maxRecDepth 100000
open Go.RowKit
theorem said_under : Try.prog.underlying 36 = some (.struct (Try.prog.fieldsOf 36)) := by kernel_rfl
theorem said_info : (Try.prog.info? 36).map (·.size) = some 22 := by kernel_rfl
def sdA (e : Int × Cl) : Array Value := (sdl e).toArray
theorem sdA_size {e : Int × Cl} (h : e.2.a.length = 8) : (sdA e).size = 22 := by unfold sdA; rw [List.size_toArray, sdl_len h]
theorem sdA_all (e : Int × Cl) : (sdA e).all (·.oneCell') = true := all_oneCell_toArray fun v hv => by
  unfold sdl at hv
  rcases List.mem_cons.1 hv with rfl | hv
  · rfl
  · exact one_cl e.2 v hv
section
variable {ops : Array Oper} {rest : List Oper} {d : Option Tmp} {ty : TypeId} {ps : String} {af : Array Edge} {gd : Option (Nat × Bool)} {a : Act} {w : World} {Q : Exit → Act → World → Prop} {b o : Nat} {x : Operand} {y : Int × Cl}
theorem wpList_load_sd (hl : y.2.a.length = 8) (hw : Region.wanted ({ dst := d, op := .load 36 x, type := ty, pos := ps, after := af, guard := gd } : Oper) (yielded ops a.tmps) = true) (hx : a.eval x = .pointer (some ⟨b, o, none⟩)) (R : w.rangeAt b o (sdl y)) (h : wpList Try.prog ops Q rest (a.put d (.agg (sdA y))) w) :
    wpList Try.prog ops Q ({ dst := d, op := .load 36 x, type := ty, pos := ps, after := af, guard := gd } :: rest) a w :=
  wpList_load_g hw hx R said_under rfl (by rw [sdl_len hl]; exact said_info) h
end
/-- All of one that lies there. -/
theorem SdAt.all {w : World} {q o : Nat} {e : Int × Cl} (h : SdAt w q o e) : w.rangeAt q o (sdl e) := fun j v hj => by
  cases j with
  | zero => cases hj; exact h.r
  | succ j => have := h.c j v hj; rwa [Nat.add_assoc, Nat.add_comm 1 j] at this
/-- What was said, in a block of its own. -/
structure SdB (w : World) (g : Nat) (e : Int × Cl) : Prop where
  r : Row w g 36 (sdA e)
  l : e.2.a.length = 8
section
variable {w w' : World} {g : Nat} {e : Int × Cl}
theorem SdB.new (h : e.2.a.length = 8) (w : World) : SdB (w.alloc (.cells (sdA e) 36)) w.heap.size e := ⟨Row.new w _ _, h⟩
theorem SdB.kept (h : SdB w g e) (hb : Below w.heap.size w w') : SdB w' g e := ⟨h.r.below hb h.r.lt, h.l⟩
theorem SdB.other {k : Nat} (h : SdB w g e) (hg : w.grownBy w' (some k)) (hne : g ≠ k) : SdB w' g e := ⟨h.r.grown hg (by simpa using hne), h.l⟩
theorem SdB.rep (h : SdB w g e) : w.cell? ⟨g, 0, none⟩ = some (.int .i64 e.1) := by rw [h.r.cell]; rfl
theorem SdB.st (h : SdB w g e) : w.cell? ⟨g, 1, none⟩ = some (.int .i64 e.2.st) := by rw [h.r.cell]; rfl
theorem SdB.ce (h : SdB w g e) : w.rangeAt g 1 e.2.l := h.r.mid (A := [.int .i64 e.1]) (ys := e.2.l) (B := []) (by unfold sdA sdl; simp) rfl
theorem SdB.v (h : SdB w g e) : w.rangeAt g 4 [.int .i64 e.2.v.1, .int .i64 e.2.v.2] :=
  h.r.mid (A := [.int .i64 e.1, .int .i64 e.2.st, .int .i64 e.2.p.1, .int .i64 e.2.p.2]) (B := e.2.c.l ++ (cellsR e.2.a ++ [.bool e.2.s])) rfl rfl
theorem SdB.s (h : SdB w g e) : w.cell? ⟨g, 21, none⟩ = some (.bool e.2.s) := by
  have h1 := h.r.mid (A := .int .i64 e.1 :: .int .i64 e.2.st :: .int .i64 e.2.p.1 :: .int .i64 e.2.p.2 :: .int .i64 e.2.v.1 :: .int .i64 e.2.v.2 :: (e.2.c.l ++ cellsR e.2.a)) (ys := [.bool e.2.s]) (B := []) (o := 21) (by unfold sdA sdl Cl.l; simp) (by simp [length_cellsR, h.l, Cm.l])
  exact h1 0 _ rfl
end
/-- The answer: a cell, and a flag. -/
theorem results_cb {fn : Func} {tmps : Array Value} {w : World} {a b q : Nat} {t : TypeId} {z : Value} {x : Cl} (hf : fn.results = #[.cell a 34, .tmp b]) (ha : tmps[a]? = some (.pointer (some ⟨q, 0, none⟩))) (hb : tmps[b]? = some z) (R : CeAt w q t x) :
    (results fn tmps).run Try.prog w = .ok (.tuple #[.agg (clC x), z]) w := by
  have h2 := run_loadVar_row w q t 34 (clC x) _ _ R.r ce_under rfl (by rw [clC_size R.l]; exact ce_info)
  simp only [results, hf]
  simp [asAddr, ha, hb, h2]
theorem fill_cl : ∀ w : World, (Instr.build 34 #[]).run Try.prog w = .ok (.agg (clC zeroCl)) w := fun w => by kernel_rfl
theorem findAt {l : List (Int × Cl)} {k : Nat} {e : Int × Cl} (hn : ∀ j f, j < k → l[j]? = some f → f.2.st ≠ 3) (he : l[k]? = some e) (h3 : e.2.st = 3) : (l.find? fun e => decide (e.2.st = 3)) = some e := by
  have hk : k < l.length := (List.getElem?_eq_some_iff.1 he).1
  have e1 : l = l.take k ++ (e :: l.drop (k + 1)) := by
    have h2 : l.drop k = e :: l.drop (k + 1) := by
      rw [List.drop_eq_getElem_cons hk]
      congr 1
      exact (List.getElem?_eq_some_iff.1 he).2
    rw [← h2, List.take_append_drop]
  have e2 : (l.take k).find? (fun e => decide (e.2.st = 3)) = none := find_no fun f hf => by
    obtain ⟨j, hj⟩ := List.getElem?_of_mem hf
    have hjk : j < k := by
      have := (List.getElem?_eq_some_iff.1 hj).1
      rw [List.length_take] at this
      omega
    rw [List.getElem?_take_of_lt hjk] at hj
    exact hn j f hjk hj
  rw [e1, List.find?_append, e2, List.find?_cons]
  simp [h3]
/-- While it goes on: the answer. -/
structure Cmw (W w : World) : Prop where
  low : Below W.heap.size W w
  r : CeAt w W.heap.size 34 zeroCl
section
variable {W w w' : World}
theorem Cmw.kept (h : Cmw W w) (hb : Below w.heap.size w w') : Cmw W w' := ⟨kept_trans h.low hb, h.r.kept hb⟩
theorem Cmw.start (w : World) : Cmw w (w.alloc (.cells (clC zeroCl) 34)) := ⟨kept_alloc (kept_refl w) _, CeAt.new rfl w _⟩
end
set_option maxHeartbeats 4000000 in
theorem committed_any {A : Option Addr} {m c : Nat} {l : List (Int × Cl)} {w : World} (hm : l.length = m) (hl : Sds w A l) (h1000 : m ≤ 1000) :
    Calls Try.prog 42 #[.slice A m c] w fun e w' => e = .returned (.tuple #[.agg (clC (((l.find? fun e => decide (e.2.st = 3)).map (·.2)).getD zeroCl)), .bool (l.find? fun e => decide (e.2.st = 3)).isSome]) ∧ Below w.heap.size w w' := by
  have HL := hide hl
  have HM := hide hm
  have HP0 := hide (show Cmw w (w.alloc (.cells #[.int .i64 0, .int .i64 0, .int .i64 0, .int .i64 0, .int .i64 0, .int .i64 0, .int .i64 0, .int .i64 0, .string ⟨#[]⟩, .string ⟨#[]⟩, .string ⟨#[]⟩, .string ⟨#[]⟩, .int .i64 0, .int .i64 0, .int .i64 0, .int .i64 0, .int .i64 0, .int .i64 0, .int .i64 0, .int .i64 0, .bool false] 34)) from Cmw.start w)
  obtain ⟨P, hP⟩ : ∃ P, (l.find? fun e => decide (e.2.st = 3)) = P := ⟨_, rfl⟩
  rw [hP]
  have HPL := hide hP
  clear hl hm hP
  go_enter Try.func42, Try.ntmps42
  go_upto_region 1 with (fail)
  generalize w.alloc (.cells #[.int .i64 0, .int .i64 0, .int .i64 0, .int .i64 0, .int .i64 0, .int .i64 0, .int .i64 0, .int .i64 0, .string ⟨#[]⟩, .string ⟨#[]⟩, .string ⟨#[]⟩, .string ⟨#[]⟩, .int .i64 0, .int .i64 0, .int .i64 0, .int .i64 0, .int .i64 0, .int .i64 0, .int .i64 0, .int .i64 0, .bool false] 34) = w1 at HP0 ⊢
  go_wp2
  go_loopw [8] (fun i wr => ∃ k : Nat, k ≤ m ∧ i = .int .i64 k ∧ Hid (∀ j e, j < k → l[j]? = some e → e.2.st ≠ 3) ∧ Hid (Cmw w wr)) (fun i _ => m - (intOf i).toNat)
  case atStart => exact ⟨0, Nat.zero_le _, rfl, hide (fun _ _ h => absurd h (Nat.not_lt_zero _)), HP0⟩
  case round =>
    clear HP0
    obtain ⟨k, hk, rfl, HNO, HP⟩ := hrel
    by_cases hkm : k < m
    · have hkmi : (k : Int) < (m : Int) := by omega
      obtain ⟨e, he⟩ : ∃ e, l[k]? = some e := ⟨_, List.getElem?_eq_getElem (by rw [HM.out]; exact hkm)⟩
      obtain ⟨q, off, hA, hX⟩ := (HL.out.below HP.out.low).at_ he
      subst hA
      have he8 := HL.out.a8 e (List.mem_of_getElem? he)
      have HE := hide he
      have hr := hX.all
      clear he hX
      go_upto_region 4 with (first
        | ((with_reducible refine wpList_load_sd he8 ?_ ?_ hr ?_); rfl; rfl)
        | ((with_reducible refine wpList_store_new (vs := sdA e) ?_ ?_ (sdA_all _) ?_ ?_ ?_); (rw [sdA_size he8]; exact said_info); (rw [sdA_size he8]; rfl); (first | rfl | (simp; done)); rfl))
      try dsimp only [Act.put]
      have HX := hide (SdB.new he8 wr)
      replace HP := hide (HP.out.kept (kept_alloc (kept_refl wr) (.cells (sdA e) 36)))
      generalize wr.alloc (.cells (sdA e) 36) = w3 at HX HP ⊢
      generalize wr.heap.size = gx at HX ⊢
      clear hr
      have s0 := HX.out.st
      by_cases h3 : e.2.st = 3
      · replace HPL := hide (show some e = P from by have h := HPL.out; rw [findAt HNO.out HE.out h3] at h; exact h)
        rw [h3] at s0
        clear h3
        go_wp2_with (first
          | ((with_reducible refine wpList_load_ce he8 ?_ ?_ HX.out.ce ?_); rfl; rfl)
          | ((with_reducible refine wpList_store_xw (y := e.2) he8 ?_ ?_ HP.out.r ?_); rfl; rfl; intro w6 hn hg; have HN := hide hn; have HB := hide (below_own HP.out.low hg (Nat.le_refl _)); clear hn hg s0))
        exact bodyPost_ret (results_cb Try.results42 rfl rfl HN.out) rfl ⟨by rw [← HPL.out]; rfl, HB.out⟩
      · have h3b : (e.2.st == 3) = false := by simpa using h3
        have H3 := hide h3
        clear h3
        go_wp2
        go_roundw
        case rel => exact ⟨k + 1, by omega, by go_num, hide (fun j f hj hf => by
          rcases Nat.lt_or_ge j k with h | h
          · exact HNO.out j f h hf
          · obtain rfl : j = k := by omega
            rw [HE.out] at hf
            cases hf
            exact H3.out), HP⟩
        case measure => simp [intOf]; omega
    · have hkmi : ¬ (k : Int) < (m : Int) := by omega
      have hkk : k = m := by omega
      replace HPL := hide (show none = P from by
        have h := HPL.out
        rw [find_no (fun e he => by
          obtain ⟨j, hj⟩ := List.getElem?_of_mem he
          exact HNO.out j e (by have := (List.getElem?_eq_some_iff.1 hj).1; rw [HM.out] at this; omega) hj)] at h
        exact h)
      have hz := fill_cl
      go_wp2_with (first
          | ((with_reducible refine wpList_store_xw (y := zeroCl) rfl ?_ ?_ HP.out.r ?_); rfl; rfl; intro w6 hn hg; have HN := hide hn; have HB := hide (below_own HP.out.low hg (Nat.le_refl _)); clear hn hg))
      exact bodyPost_ret (results_cb Try.results42 rfl rfl HN.out) rfl ⟨by rw [← HPL.out]; rfl, HB.out⟩
end Go.Proofs.Ytjkdccokiaejhaa
/- The program's latest and fast. Conditions: what was said lies in memory, at most a thousand; the cells' attributes are eight numbers. -/
namespace Go.Proofs.Ytjkdccokiaejhaa
set_option maxRecDepth 100000
open Go.RowKit
/-- While it goes on: the answer, and the best one so far. -/
structure Ltw (W w : World) (s : Cl) : Prop where
  low : Below W.heap.size W w
  r : CeAt w W.heap.size 34 zeroCl
  b : CeAt w (W.heap.size + 1) 34 s
section
variable {W w w' : World} {s s' : Cl}
theorem Ltw.kept (h : Ltw W w s) (hb : Below w.heap.size w w') : Ltw W w' s := ⟨kept_trans h.low hb, h.r.kept hb, h.b.kept hb⟩
theorem Ltw.put (h : Ltw W w s) (hn : CeAt w' (W.heap.size + 1) 34 s') (hg : w.grownBy w' (some (W.heap.size + 1))) : Ltw W w' s' := ⟨below_own h.low hg (by omega), h.r.other hg (by omega), hn⟩
theorem Ltw.start (w : World) : Ltw w ((w.alloc (.cells (clC zeroCl) 34)).alloc (.cells (clC zeroCl) 34)) zeroCl := by
  have h2 := CeAt.new (x := zeroCl) rfl (w.alloc (.cells (clC zeroCl) 34)) 34
  rw [show (w.alloc (.cells (clC zeroCl) 34)).heap.size = w.heap.size + 1 by simp] at h2
  exact ⟨kept_alloc (kept_alloc (kept_refl w) _) _, (CeAt.new (x := zeroCl) rfl w 34).kept (kept_alloc (kept_refl _) _), h2⟩
end
set_option maxHeartbeats 4000000 in
theorem latest_any (st : Int) {A : Option Addr} {m c : Nat} {l : List (Int × Cl)} {w : World} (hm : l.length = m) (hl : Sds w A l) (h1000 : m ≤ 1000) :
    Calls Try.prog 43 #[.slice A m c, .int .i64 st] w fun e w' => e = .returned (.tuple #[.agg (clC ((bestL st none l).getD zeroCl)), .bool (bestL st none l).isSome]) ∧ Below w.heap.size w w' := by
  have HL := hide hl
  have HM := hide hm
  have HP0 := hide (show Ltw w ((w.alloc (.cells #[.int .i64 0, .int .i64 0, .int .i64 0, .int .i64 0, .int .i64 0, .int .i64 0, .int .i64 0, .int .i64 0, .string ⟨#[]⟩, .string ⟨#[]⟩, .string ⟨#[]⟩, .string ⟨#[]⟩, .int .i64 0, .int .i64 0, .int .i64 0, .int .i64 0, .int .i64 0, .int .i64 0, .int .i64 0, .int .i64 0, .bool false] 34)).alloc (.cells #[.int .i64 0, .int .i64 0, .int .i64 0, .int .i64 0, .int .i64 0, .int .i64 0, .int .i64 0, .int .i64 0, .string ⟨#[]⟩, .string ⟨#[]⟩, .string ⟨#[]⟩, .string ⟨#[]⟩, .int .i64 0, .int .i64 0, .int .i64 0, .int .i64 0, .int .i64 0, .int .i64 0, .int .i64 0, .int .i64 0, .bool false] 34)) zeroCl from Ltw.start w)
  obtain ⟨P, hP⟩ : ∃ P, bestL st none l = P := ⟨_, rfl⟩
  rw [hP]
  have HPL := hide hP
  clear hl hm hP
  go_enter Try.func43, Try.ntmps43
  go_upto_region 2 with (fail)
  generalize (w.alloc (.cells #[.int .i64 0, .int .i64 0, .int .i64 0, .int .i64 0, .int .i64 0, .int .i64 0, .int .i64 0, .int .i64 0, .string ⟨#[]⟩, .string ⟨#[]⟩, .string ⟨#[]⟩, .string ⟨#[]⟩, .int .i64 0, .int .i64 0, .int .i64 0, .int .i64 0, .int .i64 0, .int .i64 0, .int .i64 0, .int .i64 0, .bool false] 34)).alloc (.cells #[.int .i64 0, .int .i64 0, .int .i64 0, .int .i64 0, .int .i64 0, .int .i64 0, .int .i64 0, .int .i64 0, .string ⟨#[]⟩, .string ⟨#[]⟩, .string ⟨#[]⟩, .string ⟨#[]⟩, .int .i64 0, .int .i64 0, .int .i64 0, .int .i64 0, .int .i64 0, .int .i64 0, .int .i64 0, .int .i64 0, .bool false] 34) = w1 at HP0 ⊢
  go_wp2
  go_loopw [7, 12] (fun b i wr => ∃ k : Nat, k ≤ m ∧ b = .bool (bestL st none (l.take k)).isSome ∧ i = .int .i64 k ∧ Hid (Ltw w wr ((bestL st none (l.take k)).getD zeroCl))) (fun _ i _ => m - (intOf i).toNat)
  case atStart => exact ⟨0, Nat.zero_le _, rfl, rfl, HP0⟩
  case round =>
    clear HP0
    obtain ⟨k, hk, rfl, rfl, HP⟩ := hrel
    by_cases hkm : k < m
    · skip
      have hkmi : (k : Int) < (m : Int) := by omega
      obtain ⟨e, he⟩ : ∃ e, l[k]? = some e := ⟨_, List.getElem?_eq_getElem (by rw [HM.out]; exact hkm)⟩
      obtain ⟨q, off, hA, hX⟩ := (HL.out.below HP.out.low).at_ he
      subst hA
      have he8 := HL.out.a8 e (List.mem_of_getElem? he)
      have HE := hide he
      have hr := hX.all
      clear he hX
      go_upto_region 6 with (first
        | ((with_reducible refine wpList_load_sd he8 ?_ ?_ hr ?_); rfl; rfl)
        | ((with_reducible refine wpList_store_new (vs := sdA e) ?_ ?_ (sdA_all _) ?_ ?_ ?_); (rw [sdA_size he8]; exact said_info); (rw [sdA_size he8]; rfl); (first | rfl | (simp; done)); rfl))
      try dsimp only [Act.put]
      have HX := hide (SdB.new he8 wr)
      have HGX := hide (show wr.heap.size ≠ w.heap.size + 1 from by have := HP.out.b.lt; omega)
      replace HP := hide (HP.out.kept (kept_alloc (kept_refl wr) (.cells (sdA e) 36)))
      generalize wr.alloc (.cells (sdA e) 36) = w3 at HX HP ⊢
      generalize wr.heap.size = gx at HX HGX ⊢
      clear hr
      have s0 := HX.out.st
      have HBT := hide (best_take st HE.out)
      generalize bestL st none (l.take k) = o at HBT HP ⊢
      by_cases h1 : e.2.st = st
      · have h1b : (e.2.st == st) = true := by simpa using h1
        cases o with
        | none =>
          replace HBT := hide (show bestL st none (l.take (k + 1)) = some e.2 from by rw [HBT.out]; unfold bestF; rw [if_pos h1])
          replace HP := hide (show Ltw w w3 zeroCl from HP.out)
          clear h1
          try simp only [Option.isSome]
          go_wp2_with (first
            | ((with_reducible refine wpList_load_ce he8 ?_ ?_ HX.out.ce ?_); rfl; rfl)
            | ((with_reducible refine wpList_store_xw (y := e.2) he8 ?_ ?_ HP.out.b ?_); rfl; rfl; intro w6 hn hg; have HN := hide (HP.out.put hn hg); clear hn hg s0))
          go_roundw
          case rel => exact ⟨k + 1, by omega, by rw [HBT.out]; rfl, by go_num, by rw [HBT.out]; exact HN⟩
          case measure => simp [intOf]; omega
        | some b0 =>
          replace HP := hide (show Ltw w w3 b0 from HP.out)
          have HBL := hide (fun w => below_any b0.v.1 b0.v.2 e.2.v.1 e.2.v.2 w)
          rw [show ((b0.v.1, b0.v.2) : Int × Int) = b0.v from rfl, show ((e.2.v.1, e.2.v.2) : Int × Int) = e.2.v from rfl] at HBL
          have HBP := hide (fun wz (h : Below w3.heap.size w3 wz) => HP.out.kept h)
          have b1a : w3.cell? ⟨w.heap.size + 1, 3, none⟩ = some (.int .i64 b0.v.1) := HP.out.b.v 0 _ rfl
          have b1b : w3.cell? ⟨w.heap.size + 1, 4, none⟩ = some (.int .i64 b0.v.2) := HP.out.b.v 1 _ rfl
          have e1a : w3.cell? ⟨gx, 4, none⟩ = some (.int .i64 e.2.v.1) := HX.out.v 0 _ rfl
          have e1b : w3.cell? ⟨gx, 5, none⟩ = some (.int .i64 e.2.v.2) := HX.out.v 1 _ rfl
          try simp only [Option.isSome]
          cases hlt3 : ltP b0.v e.2.v
          · rw [hlt3] at HBL
            replace HBT := hide (show bestL st none (l.take (k + 1)) = some b0 from by rw [HBT.out]; unfold bestF; rw [if_pos h1]; simp only; rw [hlt3]; rfl)
            clear hlt3 h1
            go_wp2_with (first
              | (go_at_call 33; (with_reducible refine (HBL.out _).mono ?_); rintro e5 w5 ⟨rfl, hb5⟩; have HN := hide (HBP.out _ hb5); clear hb5))
            go_roundw
            case rel => exact ⟨k + 1, by omega, by rw [HBT.out]; rfl, by go_num, by rw [HBT.out]; exact HN⟩
            case measure => simp [intOf]; omega
          · rw [hlt3] at HBL
            replace HBT := hide (show bestL st none (l.take (k + 1)) = some e.2 from by rw [HBT.out]; unfold bestF; rw [if_pos h1]; simp only; rw [hlt3]; rfl)
            clear hlt3 h1
            go_wp2_with (first
              | (go_at_call 33; (with_reducible refine (HBL.out _).mono ?_); rintro e5 w5 ⟨rfl, hb5⟩; have HN := hide (HBP.out _ hb5); replace HX := hide (HX.out.kept hb5); clear hb5)
              | ((with_reducible refine wpList_load_ce he8 ?_ ?_ HX.out.ce ?_); rfl; rfl)
              | ((with_reducible refine wpList_store_xw (y := e.2) he8 ?_ ?_ HN.out.b ?_); rfl; rfl; intro w6 hn hg; replace HN := hide (HN.out.put hn hg); clear hn hg))
            go_roundw
            case rel => exact ⟨k + 1, by omega, by rw [HBT.out]; rfl, by go_num, by rw [HBT.out]; exact HN⟩
            case measure => simp [intOf]; omega
      · have h1b : (e.2.st == st) = false := by simpa using h1
        replace HBT := hide (show bestL st none (l.take (k + 1)) = o from by rw [HBT.out]; exact if_neg h1)
        clear h1
        go_wp2
        go_roundw
        case rel => exact ⟨k + 1, by omega, by rw [HBT.out], by go_num, by rw [HBT.out]; exact HP⟩
        case measure => simp [intOf]; omega
    · have hkmi : ¬ (k : Int) < (m : Int) := by omega
      have hkk : k = m := by omega
      have htk : l.take k = l := List.take_of_length_le (by rw [HM.out]; omega)
      rw [htk, HPL.out] at HP
      rw [htk, HPL.out]
      have hb8 := HP.out.b.l
      go_wp2_with (first
          | ((with_reducible refine wpList_load_ce hb8 ?_ ?_ HP.out.b.all ?_); rfl; rfl)
          | ((with_reducible refine wpList_store_xw (y := P.getD zeroCl) hb8 ?_ ?_ HP.out.r ?_); rfl; rfl; intro w6 hn hg; have HN := hide hn; have HB := hide (below_own HP.out.low hg (Nat.le_refl _)); clear hn hg))
      exact bodyPost_ret (results_cb Try.results43 rfl rfl HN.out) rfl ⟨rfl, HB.out⟩
end Go.Proofs.Ytjkdccokiaejhaa
/- The program's fast. Conditions: what was said lies in memory, at most a thousand; the cells' attributes are eight numbers. -/
namespace Go.Proofs.Ytjkdccokiaejhaa
set_option maxRecDepth 100000
open Go.RowKit
/-- What fast answers. -/
def fastL (n : Nat) (owner : Int) (l : List (Int × Cl)) : Cl × Bool := if (l.all fun e => decide (e.1 ≠ owner)) && decide (n / 2 ≤ (sameL owner l).length) then (((sameL owner l).headD (0, zeroCl)).2, true) else (zeroCl, false)
theorem head_8 {owner : Int} {l : List (Int × Cl)} (h : ∀ e, e ∈ l → e.2.a.length = 8) : ((sameL owner l).headD (0, zeroCl)).2.a.length = 8 := by
  cases hs : sameL owner l with
  | nil => rfl
  | cons x xs =>
    have hx : x ∈ sameL owner l := by rw [hs]; exact List.mem_cons_self
    exact h x (List.mem_filter.1 hx).1
set_option maxHeartbeats 8000000 in
theorem fast_any {n : Nat} (owner : Int) {A : Option Addr} {m c : Nat} {l : List (Int × Cl)} {w : World} (hn2 : 2 ≤ n) (hn : n ≤ 100) (hm : l.length = m) (hl : Sds w A l) (h1000 : m ≤ 1000) :
    Calls Try.prog 44 #[.int .i64 (n : Nat), .int .i64 owner, .slice A m c] w fun e w' => e = .returned (.tuple #[.agg (clC (fastL n owner l).1), .bool (fastL n owner l).2]) ∧ Below w.heap.size w w' := by
  have HL := hide hl
  have HM := hide hm
  have HP0 := hide (show Ltw w ((w.alloc (.cells #[.int .i64 0, .int .i64 0, .int .i64 0, .int .i64 0, .int .i64 0, .int .i64 0, .int .i64 0, .int .i64 0, .string ⟨#[]⟩, .string ⟨#[]⟩, .string ⟨#[]⟩, .string ⟨#[]⟩, .int .i64 0, .int .i64 0, .int .i64 0, .int .i64 0, .int .i64 0, .int .i64 0, .int .i64 0, .int .i64 0, .bool false] 34)).alloc (.cells #[.int .i64 0, .int .i64 0, .int .i64 0, .int .i64 0, .int .i64 0, .int .i64 0, .int .i64 0, .int .i64 0, .string ⟨#[]⟩, .string ⟨#[]⟩, .string ⟨#[]⟩, .string ⟨#[]⟩, .int .i64 0, .int .i64 0, .int .i64 0, .int .i64 0, .int .i64 0, .int .i64 0, .int .i64 0, .int .i64 0, .bool false] 34)) zeroCl from Ltw.start w)
  obtain ⟨P, hP⟩ : ∃ P, fastL n owner l = P := ⟨_, rfl⟩
  rw [hP]
  unfold fastL at hP
  have HPL := hide hP
  obtain ⟨nh, hnh⟩ : ∃ nh, n / 2 = nh := ⟨_, rfl⟩
  rw [hnh] at HPL
  have hnh1 : 1 ≤ nh := by omega
  have hnh2 : nh ≤ 1000 := by omega
  have hni : (n : Int) / 2 = (nh : Int) := by omega
  clear hl hm hP hnh
  go_enter Try.func44, Try.ntmps44
  go_upto_region 2 with (fail)
  generalize (w.alloc (.cells #[.int .i64 0, .int .i64 0, .int .i64 0, .int .i64 0, .int .i64 0, .int .i64 0, .int .i64 0, .int .i64 0, .string ⟨#[]⟩, .string ⟨#[]⟩, .string ⟨#[]⟩, .string ⟨#[]⟩, .int .i64 0, .int .i64 0, .int .i64 0, .int .i64 0, .int .i64 0, .int .i64 0, .int .i64 0, .int .i64 0, .bool false] 34)).alloc (.cells #[.int .i64 0, .int .i64 0, .int .i64 0, .int .i64 0, .int .i64 0, .int .i64 0, .int .i64 0, .int .i64 0, .string ⟨#[]⟩, .string ⟨#[]⟩, .string ⟨#[]⟩, .string ⟨#[]⟩, .int .i64 0, .int .i64 0, .int .i64 0, .int .i64 0, .int .i64 0, .int .i64 0, .int .i64 0, .int .i64 0, .bool false] 34) = w1 at HP0 ⊢
  go_wp2
  go_loopw [9, 14] (fun b i wr => ∃ k : Nat, k ≤ m ∧ b = .int .i64 ((sameL owner (l.take k)).length : Nat) ∧ i = .int .i64 k ∧ Hid (∀ j e, j < k → l[j]? = some e → e.1 ≠ owner) ∧ Hid (Ltw w wr ((sameL owner (l.take k)).headD (0, zeroCl)).2)) (fun _ i _ => m - (intOf i).toNat)
  case atStart => exact ⟨0, Nat.zero_le _, rfl, rfl, hide (fun _ _ h => absurd h (Nat.not_lt_zero _)), HP0⟩
  case round =>
    clear HP0
    obtain ⟨k, hk, rfl, rfl, HNO, HP⟩ := hrel
    by_cases hkm : k < m
    · skip
      have hkmi : (k : Int) < (m : Int) := by omega
      obtain ⟨e, he⟩ : ∃ e, l[k]? = some e := ⟨_, List.getElem?_eq_getElem (by rw [HM.out]; exact hkm)⟩
      obtain ⟨q, off, hA, hX⟩ := (HL.out.below HP.out.low).at_ he
      subst hA
      have he8 := HL.out.a8 e (List.mem_of_getElem? he)
      have HE := hide he
      have hr := hX.all
      clear he hX
      go_upto_region 6 with (first
        | ((with_reducible refine wpList_load_sd he8 ?_ ?_ hr ?_); rfl; rfl)
        | ((with_reducible refine wpList_store_new (vs := sdA e) ?_ ?_ (sdA_all _) ?_ ?_ ?_); (rw [sdA_size he8]; exact said_info); (rw [sdA_size he8]; rfl); (first | rfl | (simp; done)); rfl))
      try dsimp only [Act.put]
      have HX := hide (SdB.new he8 wr)
      replace HP := hide (HP.out.kept (kept_alloc (kept_refl wr) (.cells (sdA e) 36)))
      generalize wr.alloc (.cells (sdA e) 36) = w3 at HX HP ⊢
      generalize wr.heap.size = gx at HX ⊢
      clear hr
      have r0 := HX.out.rep
      have s0 := HX.out.st
      have t0 := HX.out.s
      have HST := hide (same_take owner HE.out)
      have hcnl : (sameL owner (l.take k)).length ≤ 1000 := Nat.le_trans (List.length_filter_le _ _) (by rw [List.length_take]; omega)
      generalize sameL owner (l.take k) = sl at HST HP hcnl ⊢
      obtain ⟨cn, hcn⟩ : ∃ cn, sl.length = cn := ⟨_, rfl⟩
      rw [hcn] at hcnl ⊢
      have HCN := hide hcn
      clear hcn
      by_cases ho : e.1 = owner
      · have hob : (e.1 == owner) = true := by simpa using ho
        replace HPL := hide (show (zeroCl, false) = P from by
          have h := HPL.out
          rw [show (l.all fun e => decide (e.1 ≠ owner)) = false from by
            rw [← Bool.not_eq_true, List.all_eq_true]
            intro hh
            have := hh e (List.mem_of_getElem? HE.out)
            simp [ho] at this] at h
          exact h)
        clear ho
        have hz := fill_cl
        go_wp2_with (first
          | ((with_reducible refine wpList_store_xw (y := zeroCl) rfl ?_ ?_ HP.out.r ?_); rfl; rfl; intro w6 hn hg; have HN := hide hn; have HB := hide (below_own HP.out.low hg (Nat.le_refl _)); clear hn hg r0 s0 t0))
        exact bodyPost_ret (results_cb Try.results44 rfl rfl HN.out) rfl ⟨by rw [← HPL.out]; rfl, HB.out⟩
      · have hob : (e.1 == owner) = false := by simpa using ho
        have HNO2 : Hid (∀ j e, j < k + 1 → l[j]? = some e → e.1 ≠ owner) := hide (fun j f hj hf => by
          rcases Nat.lt_or_ge j k with h | h
          · exact HNO.out j f h hf
          · obtain rfl : j = k := by omega
            rw [HE.out] at hf
            cases hf
            exact ho)
        by_cases h1 : e.2.st = 1
        · rw [h1] at s0
          cases hsm : e.2.s
          · rw [hsm] at t0
            replace HST := hide (show sameL owner (l.take (k + 1)) = sl from by rw [HST.out]; simp [hsm])
            clear ho h1 hsm
            go_wp2
            go_roundw
            case rel => exact ⟨k + 1, by omega, by rw [HST.out, HCN.out], by go_num, HNO2, by rw [HST.out]; exact HP⟩
            case measure => simp [intOf]; omega
          · rw [hsm] at t0
            replace HST := hide (show sameL owner (l.take (k + 1)) = sl ++ [e] from by rw [HST.out]; simp [hsm, h1, ho])
            clear ho h1 hsm
            cases hsl0 : sl with
            | nil =>
              have hc0 : cn = 0 := by have h := HCN.out; rw [hsl0] at h; exact h.symm
              rw [hsl0] at HST HP
              subst hc0
              go_wp2_with (first
                | ((with_reducible refine wpList_load_ce he8 ?_ ?_ HX.out.ce ?_); rfl; rfl)
                | ((with_reducible refine wpList_store_xw (y := e.2) he8 ?_ ?_ HP.out.b ?_); rfl; rfl; intro w6 hn hg; have HN := hide (HP.out.put hn hg); clear hn hg r0 s0 t0))
              go_roundw
              case rel => exact ⟨k + 1, by omega, by rw [HST.out]; rfl, by go_num, HNO2, by rw [HST.out]; exact HN⟩
              case measure => simp [intOf]; omega
            | cons x xs =>
              have hc0 : ((cn : Int) == 0) = false := by have h := HCN.out; rw [hsl0, List.length_cons] at h; simp; omega
              have HLN := hide (show (sl ++ [e]).length = cn + 1 from by rw [List.length_append, HCN.out]; rfl)
              rw [hsl0] at HST HP HLN
              clear hsl0
              go_wp2
              go_roundw
              case rel => exact ⟨k + 1, by omega, by rw [HST.out, HLN.out]; go_num, by go_num, HNO2, by rw [HST.out]; exact HP⟩
              case measure => simp [intOf]; omega
        · have h1b : (e.2.st != (1 : Int)) = true := by simpa using h1
          replace HST := hide (show sameL owner (l.take (k + 1)) = sl from by rw [HST.out]; simp [h1])
          clear ho h1
          go_wp2
          go_roundw
          case rel => exact ⟨k + 1, by omega, by rw [HST.out, HCN.out], by go_num, HNO2, by rw [HST.out]; exact HP⟩
          case measure => simp [intOf]; omega
    · have hkmi : ¬ (k : Int) < (m : Int) := by omega
      have hkk : k = m := by omega
      have htk : l.take k = l := List.take_of_length_le (by rw [HM.out]; omega)
      rw [htk] at HP
      rw [htk]
      replace HPL := hide (show (if decide (nh ≤ (sameL owner l).length) then (((sameL owner l).headD (0, zeroCl)).2, true) else (zeroCl, false)) = P from by
        have h := HPL.out
        rw [show (l.all fun e => decide (e.1 ≠ owner)) = true from by
          rw [List.all_eq_true]
          intro e he
          obtain ⟨j, hj⟩ := List.getElem?_of_mem he
          exact decide_eq_true (HNO.out j e (by have := (List.getElem?_eq_some_iff.1 hj).1; rw [HM.out] at this; omega) hj)] at h
        exact h)
      have hcnl : (sameL owner l).length ≤ 1000 := Nat.le_trans (List.length_filter_le _ _) (by rw [HM.out]; exact h1000)
      have hb8 := HP.out.b.l
      generalize ((sameL owner l).headD (0, zeroCl)).2 = f0 at HP HPL hb8
      generalize (sameL owner l).length = cn at HPL hcnl ⊢
      clear htk hkk hkm hk HNO
      by_cases hc2 : nh ≤ cn
      · have hc2i : ¬ ((cn : Int) < (nh : Int)) := by omega
        have hc0 : ((cn : Int) == 0) = false := by simp; omega
        replace HPL := hide (show (f0, true) = P from by have h := HPL.out; rw [decide_eq_true hc2] at h; exact h)
        clear hc2
        go_wp2_with (first
          | ((with_reducible refine wpList_load_ce hb8 ?_ ?_ HP.out.b.all ?_); rfl; rfl)
          | ((with_reducible refine wpList_store_xw (y := f0) hb8 ?_ ?_ HP.out.r ?_); rfl; rfl; intro w6 hn hg; have HN := hide hn; have HB := hide (below_own HP.out.low hg (Nat.le_refl _)); clear hn hg))
        exact bodyPost_ret (results_cb Try.results44 rfl rfl HN.out) rfl ⟨by rw [← HPL.out]; rfl, HB.out⟩
      · have hc2i : ((cn : Int) < (nh : Int)) := by omega
        replace HPL := hide (show (zeroCl, false) = P from by have h := HPL.out; rw [decide_eq_false hc2] at h; exact h)
        have hz := fill_cl
        clear hc2
        rcases Nat.eq_zero_or_pos cn with hc | hc
        · subst hc
          go_wp2_with (first
            | ((with_reducible refine wpList_store_xw (y := zeroCl) rfl ?_ ?_ HP.out.r ?_); rfl; rfl; intro w6 hn hg; have HN := hide hn; have HB := hide (below_own HP.out.low hg (Nat.le_refl _)); clear hn hg))
          exact bodyPost_ret (results_cb Try.results44 rfl rfl HN.out) rfl ⟨by rw [← HPL.out]; rfl, HB.out⟩
        · have hc0 : ((cn : Int) == 0) = false := by simp; omega
          go_wp2_with (first
            | ((with_reducible refine wpList_store_xw (y := zeroCl) rfl ?_ ?_ HP.out.r ?_); rfl; rfl; intro w6 hn hg; have HN := hide hn; have HB := hide (below_own HP.out.low hg (Nat.le_refl _)); clear hn hg))
          exact bodyPost_ret (results_cb Try.results44 rfl rfl HN.out) rfl ⟨by rw [← HPL.out]; rfl, HB.out⟩
end Go.Proofs.Ytjkdccokiaejhaa
