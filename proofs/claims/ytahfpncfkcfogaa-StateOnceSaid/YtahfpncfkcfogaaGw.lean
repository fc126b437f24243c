/- The program's putOwner and Put. Conditions: the state is right, its versions such as an int holds. -/
import Derived.Test.YtahfpncfkcfogaaGv
import Derived.LoopTactic
namespace Go.Proofs.Ytahfpncfkcfogaa
set_option maxRecDepth 100000
open Go.RowKit
theorem cellb {w w' : World} (hb : Below w.heap.size w w') {a : Addr} {v : Value} (hc : w.cell? a = some v) : w'.cell? a = some v := (hb.cell (World.block_lt_of_cell? w a hc)).trans hc
theorem encO_parts {o : Ow} (hm : mayO o = true) (h0 : o.s ≠ 0) :
    (num7 o.s).length ≤ 400 ∧ (num7 o.s ++ num7 o.r.why).length ≤ 400 ∧ ((num7 o.s ++ num7 o.r.why) ++ flg7 o.r.fnd).length ≤ 400 ∧ (((num7 o.s ++ num7 o.r.why) ++ flg7 o.r.fnd) ++ text7 o.r.val).length ≤ 400 ∧ ((((num7 o.s ++ num7 o.r.why) ++ flg7 o.r.fnd) ++ text7 o.r.val) ++ num7 o.r.ver).length ≤ 400 ∧
    encO o = ((((num7 o.s ++ num7 o.r.why) ++ flg7 o.r.fnd) ++ text7 o.r.val) ++ num7 o.r.ver) ++ encP o.r.l := by
  obtain ⟨_, hv, _⟩ := may_ok hm h0
  have a := (num7_len o.s).2
  have b := (num7_len o.r.why).2
  have c := (num7_len (o.r.val.size : Int)).2
  have d := (num7_len o.r.ver).2
  have f : (flg7 o.r.fnd).length = 1 := rfl
  refine ⟨by omega, by rw [List.length_append]; omega, by rw [List.length_append, List.length_append]; omega, by rw [List.length_append, List.length_append, List.length_append, text7_len]; omega, by rw [List.length_append, List.length_append, List.length_append, List.length_append, text7_len]; omega, ?_⟩
  unfold encO
  rw [if_neg h0]
  simp
set_option maxHeartbeats 8000000 in
theorem putowner_any (x : Co) (w : World) (h : Pin w x.p x.o.r.l) (hm : mayO x.o = true) (hn : ∀ p, p ∈ x.o.r.l → p.n ≤ 9223372036854775807) (hv : x.o.r.ver ≤ 9223372036854775807) :
    Calls Try.prog 51 #[.agg #[.int .i64 x.o.s, .int .i64 x.o.r.why, .bool x.o.r.fnd, .string x.o.r.val, .int .i64 x.o.r.ver, x.p]] w (MadeB w (encO x.o)) := by
  have HW := hide (kept_alloc (kept_refl w) (.cells #[.int .i64 x.o.s, .int .i64 x.o.r.why, .bool x.o.r.fnd, .string x.o.r.val, .int .i64 x.o.r.ver, x.p] 27))
  have R0 := hide (Row.new w 27 #[.int .i64 x.o.s, .int .i64 x.o.r.why, .bool x.o.r.fnd, .string x.o.r.val, .int .i64 x.o.r.ver, x.p])
  have HP := hide (h.below HW.out)
  have HM := hide hm
  have HN := hide (And.intro hn hv)
  clear h hm hn hv
  obtain ⟨⟨s, ⟨why, fnd, val, ver, l⟩⟩, A, c⟩ := x
  unfold Co.p at *
  dsimp only at *
  by_cases h0 : s = 0
  · subst h0
    have HE : Hid (([] : List Int) ++ num7 0 = encO ⟨0, ⟨why, fnd, val, ver, l⟩⟩) := hide (by unfold encO; simp)
    have HC := hide (fun (w2 : World) (hb : Below w.heap.size w w2) => bnum (By.nil_ w.heap.size w2) 0 (Nat.zero_le _) (by omega) (by omega))
    go_enter Try.func51, Try.ntmps51
    go_upto_region 1 with (fail)
    generalize w.alloc (.cells #[.int .i64 0, .int .i64 why, .bool fnd, .string val, .int .i64 ver, .slice A l.length c] 27) = w1 at HW R0 HP ⊢
    have g0 : Hid (w.heap.size < w1.heap.size) := hide R0.out.lt
    generalize hg : w.heap.size = g at *
    obtain ⟨c0, c1, c2, c3, c4, c5⟩ := R0.out.six
    go_upto_region 2 with (go_at_call 83; (with_reducible refine (HC.out w1 HW.out).mono ?_); rintro e w2 ⟨u1, rfl, hu1, hb1⟩)
    have HU := hide hu1
    have HB := hide hb1
    clear hu1 hb1 HC c0 c1 c2 c3 c4 c5
    obtain ⟨c0, c1, c2, c3, c4, c5⟩ := (R0.out.below HB.out g0.out).six
    go_wp2
    go_ret
    subst hg
    exact ⟨_, rfl, by rw [← HE.out]; exact HU.out.mono (Nat.le_of_lt g0.out), kept_trans HW.out HB.out⟩
  · have e0 : (s == 0) = false := by simpa using h0
    obtain ⟨q1, q2, q3, q4, q5, q6⟩ := encO_parts HM.out h0
    obtain ⟨b1, b2, b3, b4, b5, b6, b7⟩ := may_ok HM.out h0
    have HQ := hide (And.intro q1 (And.intro q2 (And.intro q3 (And.intro q4 (And.intro q5 q6)))))
    have HL : Hid ((why = 0 ∨ why = 7) ∧ val.size ≤ 64 ∧ 0 ≤ ver ∧ l.length ≤ 8 ∧ rightB l = true ∧ 1 ≤ s ∧ s ≤ 1099511627776) := hide ⟨b1, b2, b3, b4, b5, b6, b7⟩
    clear q1 q2 q3 q4 q5 q6 b1 b2 b3 b4 b5 b6 b7 h0
    dsimp only at HQ
    go_enter Try.func51, Try.ntmps51
    go_upto_region 1 with (fail)
    generalize w.alloc (.cells #[.int .i64 s, .int .i64 why, .bool fnd, .string val, .int .i64 ver, .slice A l.length c] 27) = w1 at HW R0 HP ⊢
    have HG := hide (And.intro (Nat.le_refl w.heap.size) R0.out.lt)
    generalize hg : w.heap.size = g at R0 HG ⊢
    have HW1 : Hid (g = w.heap.size) := hide hg.symm
    clear hg
    have HB0 := hide (Below.refl w1.heap.size w1)
    have HC1 := hide (bnum (By.nil_ w1.heap.size w1) s (Nat.zero_le _) (by have := HL.out.2.2.2.2.2.1; omega) (by have := HL.out.2.2.2.2.2.2; omega))
    obtain ⟨c0, c1, c2, c3, c4, c5⟩ := R0.out.six
    go_upto_region 2 with (go_at_call 83; (with_reducible refine HC1.out.mono ?_); rintro e w2 ⟨u1, rfl, hu, hb⟩)
    have R1 := hide (R0.out.below hb R0.out.lt)
    have HB1 := hide (kept_trans HB0.out hb)
    have HU1 : Hid (By w1.heap.size w2 u1 (num7 s)) := hide (by first | exact hu | exact hu.mono HB0.out.size | (have hu := hu; rw [List.nil_append] at hu; exact hu))
    clear hu hb c0 c1 c2 c3 c4 c5 HC1
    obtain ⟨c0, c1, c2, c3, c4, c5⟩ := R1.out.six
    go_upto_region 4 with (fail)
    clear c0 c1 c2 c3 c4 c5
    have HC2 := hide (bnum HU1.out why (by have := HQ.out.1; omega) (by rcases HL.out.1 with e | e <;> omega) (by rcases HL.out.1 with e | e <;> omega))
    obtain ⟨c0, c1, c2, c3, c4, c5⟩ := R1.out.six
    go_upto_region 5 with (go_at_call 83; (with_reducible refine HC2.out.mono ?_); rintro e w3 ⟨u2, rfl, hu, hb⟩)
    have R2 := hide (R1.out.below hb R1.out.lt)
    have HB2 := hide (kept_trans HB1.out hb)
    have HU2 : Hid (By w1.heap.size w3 u2 (num7 s ++ num7 why)) := hide (by first | exact hu | exact hu.mono HB1.out.size | (have hu := hu; rw [List.nil_append] at hu; exact hu))
    clear hu hb c0 c1 c2 c3 c4 c5 HC2
    have HC3 := hide (bflag HU2.out fnd (by have := HQ.out.2.1; omega))
    obtain ⟨c0, c1, c2, c3, c4, c5⟩ := R2.out.six
    go_upto_region 6 with (go_at_call 85; (with_reducible refine HC3.out.mono ?_); rintro e w4 ⟨u3, rfl, hu, hb⟩)
    have R3 := hide (R2.out.below hb R2.out.lt)
    have HB3 := hide (kept_trans HB2.out hb)
    have HU3 : Hid (By w1.heap.size w4 u3 ((num7 s ++ num7 why) ++ flg7 fnd)) := hide (by first | exact hu | exact hu.mono HB2.out.size | (have hu := hu; rw [List.nil_append] at hu; exact hu))
    clear hu hb c0 c1 c2 c3 c4 c5 HC3
    have HC4 := hide (btext HU3.out val (by have := HQ.out.2.2.1; omega) HL.out.2.1)
    obtain ⟨c0, c1, c2, c3, c4, c5⟩ := R3.out.six
    go_upto_region 7 with (go_at_call 84; (with_reducible refine HC4.out.mono ?_); rintro e w5 ⟨u4, rfl, hu, hb⟩)
    have R4 := hide (R3.out.below hb R3.out.lt)
    have HB4 := hide (kept_trans HB3.out hb)
    have HU4 : Hid (By w1.heap.size w5 u4 (((num7 s ++ num7 why) ++ flg7 fnd) ++ text7 val)) := hide (by first | exact hu | exact hu.mono HB3.out.size | (have hu := hu; rw [List.nil_append] at hu; exact hu))
    clear hu hb c0 c1 c2 c3 c4 c5 HC4
    have HC5 := hide (bnum HU4.out ver (by have := HQ.out.2.2.2.1; omega) (by have := HL.out.2.2.1; omega) HN.out.2)
    obtain ⟨c0, c1, c2, c3, c4, c5⟩ := R4.out.six
    go_upto_region 8 with (go_at_call 83; (with_reducible refine HC5.out.mono ?_); rintro e w6 ⟨u5, rfl, hu, hb⟩)
    have R5 := hide (R4.out.below hb R4.out.lt)
    have HB5 := hide (kept_trans HB4.out hb)
    have HU5 : Hid (By w1.heap.size w6 u5 ((((num7 s ++ num7 why) ++ flg7 fnd) ++ text7 val) ++ num7 ver)) := hide (by first | exact hu | exact hu.mono HB4.out.size | (have hu := hu; rw [List.nil_append] at hu; exact hu))
    clear hu hb c0 c1 c2 c3 c4 c5 HC5
    have HCP := hide (putpairs_any (.slice A l.length c) l w6 (HP.out.below HB5.out) (fun p hp => ⟨right_may HL.out.2.2.2.2.1 p hp, HN.out.1 p hp⟩) (by have := HL.out.2.2.2.1; omega))
    have HLE := hide (encP_len (right_may HL.out.2.2.2.2.1) (by have := HL.out.2.2.2.1; omega))
    obtain ⟨c0, c1, c2, c3, c4, c5⟩ := R5.out.six
    go_wp2_with (first
      | (go_at_call 50; (with_reducible refine HCP.out.mono ?_); rintro e w7 ⟨u6, rfl, hu6, hb6⟩; have HU6 := hide (HU5.out.below hb6); have HV6 := hide hu6; have HB6 := hide (kept_trans HB5.out hb6); have HS6 := hide HB6.out.size; have HX5 := hide (show ((((num7 s ++ num7 why) ++ flg7 fnd) ++ text7 val) ++ num7 ver).length ≤ 100000 from by have := HQ.out.2.2.2.2.1; omega); have HY5 := hide (show (encP l).length ≤ 100000 from by have := HLE.out; omega))
      | ((with_reducible refine wpList_append_by ?_ (.tmp 31) (.tmp 35) ?_ ?_ HU6.out ?_ HV6.out HX5.out HY5.out HS6.out ?_); rfl; rfl; rfl; rfl; intro v9 w9 hu9 hb9 _; have HU9 := hide hu9; have HB9 := hide (HB6.out.trans hb9)))
    go_ret
    obtain rfl := HW1.out
    exact ⟨_, rfl, by rw [HQ.out.2.2.2.2.2]; exact HU9.out.mono (Nat.le_of_lt HG.out.2), kept_trans HW.out HB9.out⟩
end Go.Proofs.Ytahfpncfkcfogaa
/- The program's Put. Conditions: the state lies in memory; what its numbers are fits an int. -/
namespace Go.Proofs.Ytahfpncfkcfogaa
set_option maxRecDepth 100000
open Go.RowKit
theorem state_may {s : Sm} {L : List Co} (h : rightSB s = true) (he : ows L = s.o) : rightB s.l = true ∧ ∀ x, x ∈ L → mayO x.o = true := by
  unfold rightSB at h
  simp only [Bool.and_eq_true, List.all_eq_true] at h
  exact ⟨h.1, fun x hx => h.2 x.o (by rw [← he]; exact List.mem_map.2 ⟨x, hx, rfl⟩)⟩
set_option maxHeartbeats 8000000 in
theorem putS_any (p : Value) (L : List Co) (s : Sm) (w : World) (h : IsS w p L s) (hb : Bd s) :
    Calls Try.prog 22 #[.agg (stc p L)] w (MadeB w (encS s)) := by
  have R0 := hide (Row.new w 30 (stc p L))
  have K0 := hide (kept_alloc (kept_refl w) (.cells (stc p L) 30))
  have HS := hide (h.below K0.out)
  have H8 := hide h.fine.1
  have HI := hide h.is
  have HBD := hide hb
  obtain ⟨A, c, rfl, _⟩ := h.pin
  clear h hb
  have HES : Hid (encS s = if rightSB s = true then encA s else []) := hide rfl
  go_enter Try.func22, Try.ntmps22
  go_upto_region 1 with (fail)
  generalize w.alloc (.cells (stc (.slice A s.l.length c) L) 30) = w1 at R0 K0 HS ⊢
  have HG := hide R0.out.lt
  have HW1 : Hid (Below w.heap.size w w1) := K0
  clear K0
  have H1 := hide (sright_any _ L s w1 HS.out)
  by_cases ht : rightSB s = true
  case neg =>
    rw [Bool.not_eq_true] at ht
    rw [ht] at H1 HES
    clear ht
    go_wp2_with (first | ((with_reducible refine wpList_load49 ?_ R0.out H8.out ?_); rfl) | (go_at_call 20; (with_reducible refine H1.out.mono ?_); rintro e w2 ⟨rfl, hb2⟩))
    go_ret
    exact ⟨_, rfl, by rw [HES.out]; exact By.nil_ _ _, kept_trans HW1.out hb2⟩
  case pos =>
    have HM := hide (state_may ht HI.out)
    rw [ht] at H1 HES
    clear ht
    go_upto_region 3 with (first | ((with_reducible refine wpList_load49 ?_ R0.out H8.out ?_); rfl) | (go_at_call 20; (with_reducible refine H1.out.mono ?_); rintro e w2 ⟨rfl, hb2⟩))
    have HB2 := hide hb2
    have R2 := hide (R0.out.below hb2 R0.out.lt)
    clear hb2 H1
    have c0 := R2.out.pairs49
    have HCP := hide (putpairs_any (.slice A s.l.length c) s.l w2 (HS.out.pin.below HB2.out) (fun q hq => ⟨right_may HM.out.1 q hq, HBD.out.l q hq⟩) (right_len HM.out.1))
    go_upto_region 4 with (go_at_call 50; (with_reducible refine HCP.out.mono ?_); rintro e w3 ⟨u1, rfl, hu1, hb3⟩)
    have HB3 := hide (kept_trans HB2.out hb3)
    have R3 := hide (R2.out.below hb3 R2.out.lt)
    have HU3 := hide (hu1.mono HB2.out.size)
    have HLE := hide (encP_len (right_may HM.out.1) (right_len HM.out.1))
    have HF := hide HS.out.fine
    have HBO : Hid (∀ x, x ∈ L → (∀ q, q ∈ x.o.r.l → q.n ≤ 9223372036854775807) ∧ x.o.r.ver ≤ 9223372036854775807) := hide (fun x hx => HBD.out.o x.o (by rw [← HI.out]; exact List.mem_map.2 ⟨x, hx, rfl⟩))
    have HA : Hid (encA s = encP s.l ++ (ows L).flatMap encO) := hide (by rw [HI.out]; rfl)
    have HFL := hide (fun k => flatO_len ((ows L).take k) (fun o ho => by
      obtain ⟨x, hx, rfl⟩ := List.mem_map.1 (List.mem_of_mem_take ho)
      exact HM.out.2 x hx))
    have HOL : Hid ((ows L).length = 8) := hide (by unfold ows; rw [List.length_map]; exact H8.out)
    clear hb3 hu1 HCP c0 HBD HI HS
    go_wp2_with ((with_reducible refine wpList_load8of ?_ R3.out H8.out ?_); rfl)
    go_loopw [14, 3] (fun i b wr => ∃ k : Nat, k ≤ 8 ∧ i = .int .i64 k ∧ Hid (By w1.heap.size wr b (encP s.l ++ ((ows L).take k).flatMap encO)) ∧ Hid (Below w1.heap.size w1 wr)) (fun i _ _ => 8 - (intOf i).toNat)
    case atStart => exact ⟨0, by omega, rfl, hide (by rw [List.take_zero, List.flatMap_nil, List.append_nil]; exact HU3.out), HB3⟩
    case round =>
      obtain ⟨k, hk, rfl, HBY, HBR⟩ := hrel
      by_cases hlt : k < 8
      · obtain ⟨x, hx, hp, hn⟩ := HF.out.at_ hlt
        have hix := index_eight H8.out hlt hx
        have hlt' : (k : Int) < 8 := by omega
        have HSN := hide (flat_snoc encO (ows_at hx))
        have hxl := List.mem_of_getElem? hx
        have hxm := HM.out.2 x hxl
        have hxo := HBO.out x hxl
        have HXL := hide (encO_len hxm)
        have HKA := hide (kept_alloc (kept_refl wr) (.cells #[.int .i64 x.o.s, .int .i64 x.o.r.why, .bool x.o.r.fnd, .string x.o.r.val, .int .i64 x.o.r.ver, x.p] 27))
        have HBA := hide (kept_trans HBR.out HKA.out)
        have HBYA := hide (HBY.out.below HKA.out)
        have HPC := hide (putowner_any x _ (hp.below HBA.out) hxm hxo.1 hxo.2)
        have HLP : Hid ((encP s.l ++ ((ows L).take k).flatMap encO).length ≤ 100000) := hide (by
          have := HFL.out k
          rw [List.length_take, HOL.out] at this
          have := HLE.out
          rw [List.length_append]; omega)
        have HXL2 : Hid ((encO x.o).length ≤ 100000) := hide (by have := HXL.out; omega)
        clear hx hp hn hxl hxm hxo HXL
        unfold Co.p at hix HPC HBA HBYA HKA
        go_wp2_with (first
          | (go_at_call 51; (with_reducible refine HPC.out.mono ?_); rintro e w5 ⟨u5, rfl, hu5, hb5⟩; have HU5 := hide (HBYA.out.below hb5); have HV5 := hide hu5; have HB5 := hide (kept_trans HBA.out hb5); have HS5 := hide HB5.out.size)
          | ((with_reducible refine wpList_append_by ?_ (.tmp 17) (.tmp 19) ?_ ?_ HU5.out ?_ HV5.out HLP.out HXL2.out HS5.out ?_); rfl; rfl; rfl; rfl; intro v9 w9 hu9 hb9 _; have HU9 : Hid (By w1.heap.size w9 v9 (encP s.l ++ ((ows L).take (k + 1)).flatMap encO)) := hide (by rw [HSN.out, ← List.append_assoc]; exact hu9); have HB9 := hide (HB5.out.trans hb9)))
        go_roundw
        case rel => exact ⟨k + 1, by omega, by go_num, HU9, HB9⟩
        case measure => simp [intOf]; omega
      · obtain rfl : k = 8 := by omega
        have HE : Hid (encP s.l ++ ((ows L).take 8).flatMap encO = encS s) := hide (by rw [List.take_of_length_le (by rw [HOL.out]; exact Nat.le_refl _), HES.out, HA.out]; simp)
        go_wp2
        go_ret
        exact ⟨_, rfl, by rw [← HE.out]; exact HBY.out.mono HW1.out.size, kept_trans HW1.out HBR.out⟩
end Go.Proofs.Ytahfpncfkcfogaa
/- The document's pairs. Conditions: the bytes and the list lie in memory; its numbers are such as an int holds. -/
namespace Go.Proofs.Ytahfpncfkcfogaa
set_option maxRecDepth 100000
open Go.RowKit
theorem len_two (a b : List Int) : (a ++ b).length = a.length + b.length := List.length_append
set_option maxHeartbeats 8000000 in
theorem rpairs_any {b0 : Nat} (v : Value) (zs : List Int) (u : Value) (l : List Pr) (w : World) (hv : By b0 w v zs) (h : Pin w u l) (hm : ∀ p, p ∈ l → mayB p = true ∧ p.n ≤ 9223372036854775807) (hl : l.length ≤ 32) (lz : zs.length ≤ 50000) :
    Calls Try.prog 52 #[v, u] w (MadeB w (zs ++ encP l)) := by
  obtain ⟨A, c, rfl, hA, hc, hcc, hz⟩ := h
  have HZ := hide hz
  have HM := hide hm
  have HN1 := hide (rbnum hv (l.length : Int) (by omega) (by omega) (by omega))
  have HFL := hide (fun k => flat_len (l.take k) (fun p hp => (hm p (List.mem_of_mem_take hp)).1))
  have HNL := hide (num7_len (l.length : Int)).2
  have HLZ := hide lz
  clear hz hm hv lz
  go_enter Try.func52, Try.ntmps52
  go_upto_region 2 with (go_at_call 53; (with_reducible refine HN1.out.mono ?_); rintro e w1 ⟨u1, rfl, hu1, hb1⟩)
  have HU := hide hu1
  have HB := hide hb1
  clear hu1 hb1 HN1
  go_wp2
  go_loopw [5, 0] (fun i b wr => ∃ k : Nat, k ≤ l.length ∧ i = .int .i64 k ∧ Hid (By w.heap.size wr b ((zs ++ num7 l.length) ++ (l.take k).flatMap encR)) ∧ Hid (Below w.heap.size w wr)) (fun i _ _ => l.length - (intOf i).toNat)
  case atStart => exact ⟨0, by omega, rfl, hide (by rw [List.take_zero, List.flatMap_nil, List.append_nil]; exact HU.out), HB⟩
  case round =>
    obtain ⟨k, hk, rfl, HBY, HBR⟩ := hrel
    by_cases hlt : k < l.length
    · obtain ⟨x, hx⟩ : ∃ x, l[k]? = some x := ⟨_, List.getElem?_eq_getElem hlt⟩
      obtain ⟨b1, o1, rfl, hbl, c0, c1, c2⟩ := (HZ.out.below HBR.out).at_ hx
      have hlt' : (k : Int) < (l.length : Int) := by omega
      have HSN := hide (flat_snoc encR hx)
      have hmx := HM.out x (List.mem_of_getElem? hx)
      have HXM := hide (may_says hmx.1)
      have HXN := hide hmx
      have HLP : Hid (((zs ++ num7 l.length) ++ (l.take k).flatMap encR).length ≤ 90000) := hide (by
        have := HFL.out k
        rw [List.length_take] at this
        have := HNL.out
        have := HLZ.out
        rw [List.length_append, List.length_append]; omega)
      clear hx hmx
      go_upto_region 5 with (fail)
      have HB5 := hide HBY.out
      have HR5 := hide HBR.out
      have HC5 := hide (And.intro c0 (And.intro c1 c2))
      clear c0 c1 c2 HBY HBR
      refine wp_region_noPanic ?_
      refine wp_region_T 19 (fun w' => w'.cell? ⟨b1, o1 + k * 3, none⟩ = some (.string x.k) ∧ w'.cell? ⟨b1, o1 + k * 3 + 1, none⟩ = some (.string x.v) ∧ w'.cell? ⟨b1, o1 + k * 3 + 2, none⟩ = some (.int .i64 x.n)) (by kernel_rfl) ?_
      have HD := hide (show ((World.drew wr).cell? ⟨b1, o1 + k * 3, none⟩ = some (.string x.k) ∧ (World.drew wr).cell? ⟨b1, o1 + k * 3 + 1, none⟩ = some (.string x.v) ∧ (World.drew wr).cell? ⟨b1, o1 + k * 3 + 2, none⟩ = some (.int .i64 x.n)) ∧ By w.heap.size (World.drew wr) u0 ((zs ++ num7 l.length) ++ (l.take k).flatMap encR) ∧ Below w.heap.size w (World.drew wr) from ⟨⟨cellb (kept_drewN (kept_refl wr) 1) HC5.out.1, cellb (kept_drewN (kept_refl wr) 1) HC5.out.2.1, cellb (kept_drewN (kept_refl wr) 1) HC5.out.2.2⟩, HB5.out.below (kept_drewN (kept_refl wr) 1), kept_drewN HR5.out 1⟩)
      generalize World.drew _ = wd at HD ⊢
      refine anyT_take (i := 0) (v := ?ov0_q) (by simp only [List.getElem?_toArray, List.getElem?_cons_zero]; exact rfl) (by kernel_rfl) (by kernel_rfl) (fun _ _ _ h => h) (by kernel_rfl) (by kernel_rfl) (Or.inl ⟨by rfl, ?oy0_q⟩) (by with_reducible exact HD.out.1) ?or0_q
      case oy0_q => (intro w hSw; skip; go_simp; try with_reducible rfl)
      try simp only [Act.put, List.setIfInBounds_toArray, List.set_cons_zero, List.set_cons_succ]
      refine anyT_take (i := 1) (v := ?ov1_q) (by simp only [List.getElem?_toArray, List.getElem?_cons_succ, List.getElem?_cons_zero]; exact rfl) (by kernel_rfl) (by kernel_rfl) (fun _ _ _ h => h) (by kernel_rfl) (by kernel_rfl) (Or.inl ⟨by rfl, ?oy1_q⟩) (by with_reducible exact HD.out.1) ?or1_q
      case oy1_q => (intro w hSw; skip; go_simp; try with_reducible rfl)
      try simp only [Act.put, List.setIfInBounds_toArray, List.set_cons_zero, List.set_cons_succ]
      refine anyT_take (i := 2) (v := ?ov2_q) (by simp only [List.getElem?_toArray, List.getElem?_cons_succ, List.getElem?_cons_zero]; exact rfl) (by kernel_rfl) (by kernel_rfl) (fun _ _ _ h => h) (by kernel_rfl) (by kernel_rfl) (Or.inl ⟨by rfl, ?oy2_q⟩) (by with_reducible exact HD.out.1) ?or2_q
      case oy2_q => (intro w hSw; skip; go_simp; try with_reducible rfl)
      try simp only [Act.put, List.setIfInBounds_toArray, List.set_cons_zero, List.set_cons_succ]
      refine anyT_take (i := 3) (v := ?ov3_q) (by simp only [List.getElem?_toArray, List.getElem?_cons_succ, List.getElem?_cons_zero]; exact rfl) (by kernel_rfl) (by kernel_rfl) (fun _ _ _ h => h) (by kernel_rfl) (by kernel_rfl) (Or.inl ⟨by rfl, ?oy3_q⟩) (by with_reducible exact HD.out.1) ?or3_q
      case oy3_q => (intro w hSw; skip; go_simp; try with_reducible rfl)
      try simp only [Act.put, List.setIfInBounds_toArray, List.set_cons_zero, List.set_cons_succ]
      refine anyT_take (i := 4) (v := ?ov4_q) (by simp only [List.getElem?_toArray, List.getElem?_cons_succ, List.getElem?_cons_zero]; exact rfl) (by kernel_rfl) (by kernel_rfl) (fun _ _ _ h => h) (by kernel_rfl) (by kernel_rfl) (Or.inl ⟨by rfl, ?oy4_q⟩) (by with_reducible exact HD.out.1) ?or4_q
      case oy4_q => (intro w hSw; skip; go_simp; try with_reducible rfl)
      try simp only [Act.put, List.setIfInBounds_toArray, List.set_cons_zero, List.set_cons_succ]
      refine anyT_take (i := 5) (v := ?ov5_q) (by simp only [List.getElem?_toArray, List.getElem?_cons_succ, List.getElem?_cons_zero]; exact rfl) (by kernel_rfl) (by kernel_rfl) (fun _ _ _ h => h) (by kernel_rfl) (by kernel_rfl) (Or.inl ⟨by rfl, ?oy5_q⟩) (by with_reducible exact HD.out.1) ?or5_q
      case oy5_q => (intro w hSw; obtain ⟨c0, c1, c2⟩ := hSw; go_simp; try with_reducible rfl)
      try simp only [Act.put, List.setIfInBounds_toArray, List.set_cons_zero, List.set_cons_succ]
      refine anyT_take (i := 7) (v := ?ov7_q) (by simp only [List.getElem?_toArray, List.getElem?_cons_succ, List.getElem?_cons_zero]; exact rfl) (by kernel_rfl) (by kernel_rfl) (fun _ _ _ h => h) (by kernel_rfl) (by kernel_rfl) (Or.inl ⟨by rfl, ?oy7_q⟩) (by with_reducible exact HD.out.1) ?or7_q
      case oy7_q => (intro w hSw; skip; go_simp; try with_reducible rfl)
      try simp only [Act.put, List.setIfInBounds_toArray, List.set_cons_zero, List.set_cons_succ]
      refine anyT_take (i := 8) (v := ?ov8_q) (by simp only [List.getElem?_toArray, List.getElem?_cons_succ, List.getElem?_cons_zero]; exact rfl) (by kernel_rfl) (by kernel_rfl) (fun _ _ _ h => h) (by kernel_rfl) (by kernel_rfl) (Or.inl ⟨by rfl, ?oy8_q⟩) (by with_reducible exact HD.out.1) ?or8_q
      case oy8_q => (intro w hSw; skip; go_simp; try with_reducible rfl)
      try simp only [Act.put, List.setIfInBounds_toArray, List.set_cons_zero, List.set_cons_succ]
      refine anyT_take (i := 9) (v := ?ov9_q) (by simp only [List.getElem?_toArray, List.getElem?_cons_succ, List.getElem?_cons_zero]; exact rfl) (by kernel_rfl) (by kernel_rfl) (fun _ _ _ h => h) (by kernel_rfl) (by kernel_rfl) (Or.inl ⟨by rfl, ?oy9_q⟩) (by with_reducible exact HD.out.1) ?or9_q
      case oy9_q => (intro w hSw; skip; go_simp; try with_reducible rfl)
      try simp only [Act.put, List.setIfInBounds_toArray, List.set_cons_zero, List.set_cons_succ]
      refine anyT_take (i := 10) (v := ?ov10_q) (by simp only [List.getElem?_toArray, List.getElem?_cons_succ, List.getElem?_cons_zero]; exact rfl) (by kernel_rfl) (by kernel_rfl) (fun _ _ _ h => h) (by kernel_rfl) (by kernel_rfl) (Or.inl ⟨by rfl, ?oy10_q⟩) (by with_reducible exact HD.out.1) ?or10_q
      case oy10_q => (intro w hSw; skip; go_simp; try with_reducible rfl)
      try simp only [Act.put, List.setIfInBounds_toArray, List.set_cons_zero, List.set_cons_succ]
      refine anyT_take (i := 11) (v := ?ov11_q) (by simp only [List.getElem?_toArray, List.getElem?_cons_succ, List.getElem?_cons_zero]; exact rfl) (by kernel_rfl) (by kernel_rfl) (fun _ _ _ h => h) (by kernel_rfl) (by kernel_rfl) (Or.inl ⟨by rfl, ?oy11_q⟩) (by with_reducible exact HD.out.1) ?or11_q
      case oy11_q => (intro w hSw; obtain ⟨c0, c1, c2⟩ := hSw; go_simp; try with_reducible rfl)
      try simp only [Act.put, List.setIfInBounds_toArray, List.set_cons_zero, List.set_cons_succ]
      refine anyT_take (i := 13) (v := ?ov13_q) (by simp only [List.getElem?_toArray, List.getElem?_cons_succ, List.getElem?_cons_zero]; exact rfl) (by kernel_rfl) (by kernel_rfl) (fun _ _ _ h => h) (by kernel_rfl) (by kernel_rfl) (Or.inl ⟨by rfl, ?oy13_q⟩) (by with_reducible exact HD.out.1) ?or13_q
      case oy13_q => (intro w hSw; skip; go_simp; try with_reducible rfl)
      try simp only [Act.put, List.setIfInBounds_toArray, List.set_cons_zero, List.set_cons_succ]
      refine anyT_take (i := 14) (v := ?ov14_q) (by simp only [List.getElem?_toArray, List.getElem?_cons_succ, List.getElem?_cons_zero]; exact rfl) (by kernel_rfl) (by kernel_rfl) (fun _ _ _ h => h) (by kernel_rfl) (by kernel_rfl) (Or.inl ⟨by rfl, ?oy14_q⟩) (by with_reducible exact HD.out.1) ?or14_q
      case oy14_q => (intro w hSw; skip; go_simp; try with_reducible rfl)
      try simp only [Act.put, List.setIfInBounds_toArray, List.set_cons_zero, List.set_cons_succ]
      refine anyT_take (i := 15) (v := ?ov15_q) (by simp only [List.getElem?_toArray, List.getElem?_cons_succ, List.getElem?_cons_zero]; exact rfl) (by kernel_rfl) (by kernel_rfl) (fun _ _ _ h => h) (by kernel_rfl) (by kernel_rfl) (Or.inl ⟨by rfl, ?oy15_q⟩) (by with_reducible exact HD.out.1) ?or15_q
      case oy15_q => (intro w hSw; skip; go_simp; try with_reducible rfl)
      try simp only [Act.put, List.setIfInBounds_toArray, List.set_cons_zero, List.set_cons_succ]
      refine anyT_take (i := 16) (v := ?ov16_q) (by simp only [List.getElem?_toArray, List.getElem?_cons_succ, List.getElem?_cons_zero]; exact rfl) (by kernel_rfl) (by kernel_rfl) (fun _ _ _ h => h) (by kernel_rfl) (by kernel_rfl) (Or.inl ⟨by rfl, ?oy16_q⟩) (by with_reducible exact HD.out.1) ?or16_q
      case oy16_q => (intro w hSw; skip; go_simp; try with_reducible rfl)
      try simp only [Act.put, List.setIfInBounds_toArray, List.set_cons_zero, List.set_cons_succ]
      refine anyT_take (i := 17) (v := ?ov17_q) (by simp only [List.getElem?_toArray, List.getElem?_cons_succ, List.getElem?_cons_zero]; exact rfl) (by kernel_rfl) (by kernel_rfl) (fun _ _ _ h => h) (by kernel_rfl) (by kernel_rfl) (Or.inl ⟨by rfl, ?oy17_q⟩) (by with_reducible exact HD.out.1) ?or17_q
      case oy17_q => (intro w hSw; obtain ⟨c0, c1, c2⟩ := hSw; go_simp; try with_reducible rfl)
      try simp only [Act.put, List.setIfInBounds_toArray, List.set_cons_zero, List.set_cons_succ]
      refine anyT_one (i := 6) (by kernel_rfl) (by simp only [List.getElem?_toArray, List.getElem?_cons_succ, List.getElem?_cons_zero]; exact rfl) (fun K hK => ?_)
      try go_simp
      refine (rbtext HD.out.2.1 x.k (by have := HLP.out; omega) (by have := HXM.out.2.1; omega)).mono ?_
      rintro e w6 ⟨y6, rfl, hy, hb⟩
      have HD6 := hide (show (w6.cell? ⟨b1, o1 + k * 3, none⟩ = some (.string x.k) ∧ w6.cell? ⟨b1, o1 + k * 3 + 1, none⟩ = some (.string x.v) ∧ w6.cell? ⟨b1, o1 + k * 3 + 2, none⟩ = some (.int .i64 x.n)) ∧ Below w.heap.size w w6 from ⟨⟨cellb hb HD.out.1.1, cellb hb HD.out.1.2.1, cellb hb HD.out.1.2.2⟩, kept_trans HD.out.2.2 hb⟩)
      have HY6 := hide hy
      have HYL6 := hide (show (((zs ++ num7 l.length) ++ (l.take k).flatMap encR) ++ text7 x.k).length ≤ 100000 from by rw [len_two, text7_len]; have := HLP.out; have a1 := (num7_len (x.k.size : Int)).2; have a2 := (num7_len (x.v.size : Int)).2; have a3 := (num7_len x.n).2; have := HXM.out.2.1; have := HXM.out.2.2.1; omega)
      clear hy hb
      refine hK.out _ _ (fun e => HD6.out.1) ?_
      clear hK K
      try simp only [Act.put, List.setIfInBounds_toArray, List.set_cons_zero, List.set_cons_succ]
      refine anyT_one (i := 12) (by kernel_rfl) (by simp only [List.getElem?_toArray, List.getElem?_cons_succ, List.getElem?_cons_zero]; exact rfl) (fun K hK => ?_)
      try go_simp
      refine (rbtext HY6.out x.v HYL6.out HXM.out.2.2.1).mono ?_
      rintro e w12 ⟨y12, rfl, hy, hb⟩
      have HD12 := hide (show (w12.cell? ⟨b1, o1 + k * 3, none⟩ = some (.string x.k) ∧ w12.cell? ⟨b1, o1 + k * 3 + 1, none⟩ = some (.string x.v) ∧ w12.cell? ⟨b1, o1 + k * 3 + 2, none⟩ = some (.int .i64 x.n)) ∧ Below w.heap.size w w12 from ⟨⟨cellb hb HD6.out.1.1, cellb hb HD6.out.1.2.1, cellb hb HD6.out.1.2.2⟩, kept_trans HD6.out.2 hb⟩)
      have HY12 := hide hy
      have HYL12 := hide (show ((((zs ++ num7 l.length) ++ (l.take k).flatMap encR) ++ text7 x.k) ++ text7 x.v).length ≤ 100000 from by rw [len_two, len_two, text7_len, text7_len]; have := HLP.out; have a1 := (num7_len (x.k.size : Int)).2; have a2 := (num7_len (x.v.size : Int)).2; have a3 := (num7_len x.n).2; have := HXM.out.2.1; have := HXM.out.2.2.1; omega)
      clear hy hb
      refine hK.out _ _ (fun e => HD12.out.1) ?_
      clear hK K
      try simp only [Act.put, List.setIfInBounds_toArray, List.set_cons_zero, List.set_cons_succ]
      refine anyT_one (i := 18) (by kernel_rfl) (by simp only [List.getElem?_toArray, List.getElem?_cons_succ, List.getElem?_cons_zero]; exact rfl) (fun K hK => ?_)
      try go_simp
      refine (rbnum HY12.out x.n HYL12.out (by have := HXM.out.2.2.2; omega) HXN.out.2).mono ?_
      rintro e w18 ⟨y18, rfl, hy, hb⟩
      have HD18 := hide (show (w18.cell? ⟨b1, o1 + k * 3, none⟩ = some (.string x.k) ∧ w18.cell? ⟨b1, o1 + k * 3 + 1, none⟩ = some (.string x.v) ∧ w18.cell? ⟨b1, o1 + k * 3 + 2, none⟩ = some (.int .i64 x.n)) ∧ Below w.heap.size w w18 from ⟨⟨cellb hb HD12.out.1.1, cellb hb HD12.out.1.2.1, cellb hb HD12.out.1.2.2⟩, kept_trans HD12.out.2 hb⟩)
      have HY18 := hide hy
      have HYL18 := hide (show ([0]).length ≤ 100000 from by rw [List.length_singleton]; omega)
      clear hy hb
      refine hK.out _ _ (fun e => HD18.out.1) ?_
      clear hK K
      try simp only [Act.put, List.setIfInBounds_toArray, List.set_cons_zero, List.set_cons_succ]
      refine anyT_one (i := 19) (by kernel_rfl) (by simp only [List.getElem?_toArray, List.getElem?_cons_succ, List.getElem?_cons_zero]; exact rfl) (fun K hK => ?_)
      try go_simp
      refine hK.out _ _ (fun e => absurd rfl e) ?_
      clear hK K
      refine anyT_done (by kernel_rfl) ?_
      refine NoPanic.normal ?_
      try simp only [Act.put]
      have HY : Hid (By w.heap.size w18 y18 ((zs ++ num7 l.length) ++ (l.take (k + 1)).flatMap encR)) := hide (by
        rw [HSN.out, ← List.append_assoc, ← encR_is]
        have hh := HY18.out.mono (show w.heap.size ≤ _ from by first | exact HD12.out.2.size | exact HD6.out.2.size)
        simpa using hh)
      have HBF := hide HD18.out.2
      go_wp2_with fail
      go_roundw
      case rel => exact ⟨k + 1, by omega, by go_num, HY, HBF⟩
      case measure => simp [intOf]; omega
    · obtain rfl : k = l.length := by omega
      have HE : Hid ((zs ++ num7 l.length) ++ (l.take l.length).flatMap encR = zs ++ encP l) := hide (by rw [List.take_length, List.append_assoc]; rfl)
      go_wp2
      go_ret
      exact ⟨_, rfl, by rw [← HE.out]; exact HBY.out, HBR.out⟩
end Go.Proofs.Ytahfpncfkcfogaa
/- The document's PutState. Conditions: the state lies in memory; what its numbers are fits an int. -/
namespace Go.Proofs.Ytahfpncfkcfogaa
set_option maxRecDepth 100000
open Go.RowKit
set_option maxHeartbeats 8000000 in
theorem rputS_any (p : Value) (L : List Co) (s : Sm) (w : World) (h : IsS w p L s) (hb : Bd s) :
    Calls Try.prog 24 #[.agg (stc p L)] w (MadeB w (encS s)) := by
  have R0 := hide (Row.new w 30 (stc p L))
  have K0 := hide (kept_alloc (kept_refl w) (.cells (stc p L) 30))
  have HS := hide (h.below K0.out)
  have H8 := hide h.fine.1
  have HI := hide h.is
  have HBD := hide hb
  obtain ⟨A, c, rfl, _⟩ := h.pin
  clear h hb
  have HES : Hid (encS s = if rightSB s = true then encA s else []) := hide rfl
  have HU : Hid ((rightO L && rightB s.l) = rightSB s) := hide (by unfold rightSB; rw [← HI.out, all_ows, Bool.and_comm])
  go_enter Try.func24, Try.ntmps24
  go_upto_region 1 with (fail)
  generalize w.alloc (.cells (stc (.slice A s.l.length c) L) 30) = w1 at R0 K0 HS ⊢
  have HG := hide R0.out.lt
  have HW1 : Hid (Below w.heap.size w w1) := K0
  clear K0
  have H1 := hide (rstate49_any (.slice A s.l.length c) s.l L w1 HS.out.fine HS.out.pin HS.out.room)
  rw [HU.out] at H1
  by_cases ht : rightSB s = true
  case neg =>
    rw [Bool.not_eq_true] at ht
    rw [ht] at H1 HES
    clear ht
    go_wp2_with (first | ((with_reducible refine wpList_load49 ?_ R0.out H8.out ?_); rfl) | (go_at_call 21; (with_reducible refine H1.out.mono ?_); rintro e w2 ⟨rfl, hb2⟩))
    go_ret
    exact ⟨_, rfl, by rw [HES.out]; exact By.nil_ _ _, kept_trans HW1.out hb2⟩
  case pos =>
    have HM := hide (state_may ht HI.out)
    rw [ht] at H1 HES
    clear ht
    go_upto_region 3 with (first | ((with_reducible refine wpList_load49 ?_ R0.out H8.out ?_); rfl) | (go_at_call 21; (with_reducible refine H1.out.mono ?_); rintro e w2 ⟨rfl, hb2⟩))
    have HB2 := hide hb2
    have R2 := hide (R0.out.below hb2 R0.out.lt)
    clear hb2 H1
    have c0 := R2.out.pairs49
    have HCP := hide (rpairs_any (.slice none 0 0) [] (.slice A s.l.length c) s.l w2 (By.nil_ 0 w2) (HS.out.pin.below HB2.out) (fun q hq => ⟨right_may HM.out.1 q hq, HBD.out.l q hq⟩) (right_len HM.out.1) (Nat.zero_le _))
    go_upto_region 4 with (go_at_call 52; (with_reducible refine HCP.out.mono ?_); rintro e w3 ⟨u1, rfl, hu1, hb3⟩)
    have HB3 := hide (kept_trans HB2.out hb3)
    have R3 := hide (R2.out.below hb3 R2.out.lt)
    have HU3 := hide (hu1.mono HB2.out.size)
    rw [List.nil_append] at HU3
    have HLE := hide (encP_len (right_may HM.out.1) (right_len HM.out.1))
    have HF := hide HS.out.fine
    have HBO : Hid (∀ x, x ∈ L → (∀ q, q ∈ x.o.r.l → q.n ≤ 9223372036854775807) ∧ x.o.r.ver ≤ 9223372036854775807) := hide (fun x hx => HBD.out.o x.o (by rw [← HI.out]; exact List.mem_map.2 ⟨x, hx, rfl⟩))
    have HA : Hid (encA s = encP s.l ++ (ows L).flatMap encO) := hide (by rw [HI.out]; rfl)
    have HFL := hide (fun k => flatO_len ((ows L).take k) (fun o ho => by
      obtain ⟨x, hx, rfl⟩ := List.mem_map.1 (List.mem_of_mem_take ho)
      exact HM.out.2 x hx))
    have HOL : Hid ((ows L).length = 8) := hide (by unfold ows; rw [List.length_map]; exact H8.out)
    have R1 := hide R0.out
    clear hb3 hu1 HCP c0 HBD HI HS HU R2 R0
    go_wp2
    have HGG : Hid (w.heap.size < w1.heap.size) := HG
    generalize hg : w.heap.size = g at R1 R3 HG ⊢
    have HGE : Hid (g = w.heap.size) := hide hg.symm
    clear hg
    go_loopw [4, 3] (fun i b wr => ∃ k : Nat, k ≤ 8 ∧ i = .int .i64 k ∧ Hid (By w1.heap.size wr b (encP s.l ++ ((ows L).take k).flatMap encO)) ∧ Hid (Below w1.heap.size w1 wr)) (fun i _ _ => 8 - (intOf i).toNat)
    case atStart => exact ⟨0, by omega, rfl, hide (by rw [List.take_zero, List.flatMap_nil, List.append_nil]; exact HU3.out), HB3⟩
    case round =>
      obtain ⟨k, hk, rfl, HBY, HBR⟩ := hrel
      by_cases hlt : k < 8
      · obtain ⟨x, hx, hp, hn⟩ := HF.out.at_ hlt
        have hlt' : (k : Int) < 8 := by omega
        have HSN := hide (flat_snoc encO (ows_at hx))
        have hxl := List.mem_of_getElem? hx
        have HXM := hide (HM.out.2 x hxl)
        have HXO := hide (HBO.out x hxl)
        have HP := hide hp
        have HLP : Hid ((encP s.l ++ ((ows L).take k).flatMap encO).length ≤ 45000) := hide (by
          have := HFL.out k
          rw [List.length_take, HOL.out] at this
          have := HLE.out
          rw [List.length_append]; omega)
        obtain ⟨c0, c1, c2, c3, c4, c5⟩ := (R1.out.below HBR.out HG.out).owner49 hx
        clear hx hp hn hxl
        unfold Co.p at c5 HP
        go_upto_region 8 with (fail)
        have HO := hide (Row.new wr 27 #[.int .i64 x.o.s, .int .i64 x.o.r.why, .bool x.o.r.fnd, .string x.o.r.val, .int .i64 x.o.r.ver, .slice x.A x.o.r.l.length x.c])
        have HKA := hide (kept_alloc (kept_refl wr) (.cells #[.int .i64 x.o.s, .int .i64 x.o.r.why, .bool x.o.r.fnd, .string x.o.r.val, .int .i64 x.o.r.ver, .slice x.A x.o.r.l.length x.c] 27))
        have HBA := hide (kept_trans HBR.out HKA.out)
        have HYA := hide (HBY.out.below HKA.out)
        clear c0 c1 c2 c3 c4 c5 HKA HBY HBR
        generalize wr.alloc (.cells #[.int .i64 x.o.s, .int .i64 x.o.r.why, .bool x.o.r.fnd, .string x.o.r.val, .int .i64 x.o.r.ver, .slice x.A x.o.r.l.length x.c] 27) = w4 at HO HBA HYA ⊢
        generalize wr.heap.size = go at HO ⊢
        by_cases h0 : x.o.s = 0
        · have HC5 := hide (rbnum HYA.out x.o.s (by have := HLP.out; omega) (by omega) (by omega))
          have HE0 : Hid (encO x.o = num7 x.o.s) := hide (by unfold encO; rw [if_pos h0, List.append_nil])
          have h0' : ¬ (0 : Int) < x.o.s := by omega
          clear h0
          obtain ⟨c0, c1, c2, c3, c4, c5⟩ := HO.out.six
          go_upto_region 9 with (go_at_call 53; (with_reducible refine HC5.out.mono ?_); rintro e w5 ⟨u5, rfl, hu5, hb5⟩)
          have HB5 := hide (kept_trans HBA.out hb5)
          have HY5 : Hid (By w1.heap.size w5 u5 (encP s.l ++ ((ows L).take (k + 1)).flatMap encO)) := hide (by
            rw [HSN.out, ← List.append_assoc, HE0.out]
            exact hu5.mono HBA.out.size)
          have HO5 := hide (HO.out.below hb5 HO.out.lt)
          clear hu5 hb5 HC5 c0 c1 c2 c3 c4 c5
          obtain ⟨c0, c1, c2, c3, c4, c5⟩ := HO5.out.six
          go_wp2
          go_roundw
          case rel => exact ⟨k + 1, by omega, by go_num, HY5, HB5⟩
          case measure => simp [intOf]; omega
        · obtain ⟨q1, q2, q3, q4, q5, q6⟩ := encO_parts HXM.out h0
          obtain ⟨b1, b2, b3, b4, b5, b6, b7⟩ := may_ok HXM.out h0
          have HQ := hide (And.intro q1 (And.intro q2 (And.intro q3 (And.intro q4 (And.intro q5 q6)))))
          have HL : Hid ((x.o.r.why = 0 ∨ x.o.r.why = 7) ∧ x.o.r.val.size ≤ 64 ∧ 0 ≤ x.o.r.ver ∧ x.o.r.l.length ≤ 8 ∧ rightB x.o.r.l = true ∧ 1 ≤ x.o.s ∧ x.o.s ≤ 1099511627776) := hide ⟨b1, b2, b3, b4, b5, b6, b7⟩
          have h0' : (0 : Int) < x.o.s := by omega
          clear q1 q2 q3 q4 q5 q6 b1 b2 b3 b4 b5 b6 b7 h0
          have HC5 := hide (rbnum HYA.out x.o.s (by have := HLP.out; omega) (by have := HL.out.2.2.2.2.2.1; omega) (by have := HL.out.2.2.2.2.2.2; omega))
          obtain ⟨c0, c1, c2, c3, c4, c5⟩ := HO.out.six
          go_upto_region 9 with (go_at_call 53; (with_reducible refine HC5.out.mono ?_); rintro e w5 ⟨u5, rfl, hu5, hb5⟩)
          have HB5 := hide (kept_trans HBA.out hb5)
          have HY5 := hide hu5
          have HO5 := hide (HO.out.below hb5 HO.out.lt)
          clear hu5 hb5 HC5 c0 c1 c2 c3 c4 c5
          obtain ⟨c0, c1, c2, c3, c4, c5⟩ := HO5.out.six
          go_upto_region 10 with (fail)
          clear c0 c1 c2 c3 c4 c5
          refine wp_region_noPanic ?_
          refine wp_region_T 17 (fun w' => Row w' go 27 #[.int .i64 x.o.s, .int .i64 x.o.r.why, .bool x.o.r.fnd, .string x.o.r.val, .int .i64 x.o.r.ver, .slice x.A x.o.r.l.length x.c]) (by kernel_rfl) ?_
          have HD := hide (show (Row (World.drew w5) go 27 #[.int .i64 x.o.s, .int .i64 x.o.r.why, .bool x.o.r.fnd, .string x.o.r.val, .int .i64 x.o.r.ver, .slice x.A x.o.r.l.length x.c]) ∧ By w4.heap.size (World.drew w5) u5 ((encP s.l ++ ((ows L).take k).flatMap encO) ++ num7 x.o.s) ∧ Below w1.heap.size w1 (World.drew w5) from ⟨HO5.out.drew, HY5.out.below (kept_drewN (kept_refl w5) 1), kept_drewN HB5.out 1⟩)
          generalize World.drew _ = wd at HD ⊢
          refine anyT_take (i := 0) (v := ?ov0_r) (by simp only [List.getElem?_toArray, List.getElem?_cons_zero]; exact rfl) (by kernel_rfl) (by kernel_rfl) (fun _ _ _ h => h) (by kernel_rfl) (by kernel_rfl) (Or.inl ⟨by rfl, ?oy0_r⟩) (by with_reducible exact HD.out.1) ?or0_r
          case oy0_r => (intro w hSw; skip; go_simp; try with_reducible rfl)
          try simp only [Act.put, List.setIfInBounds_toArray, List.set_cons_zero, List.set_cons_succ]
          refine anyT_take (i := 1) (v := ?ov1_r) (by simp only [List.getElem?_toArray, List.getElem?_cons_succ, List.getElem?_cons_zero]; exact rfl) (by kernel_rfl) (by kernel_rfl) (fun _ _ _ h => h) (by kernel_rfl) (by kernel_rfl) (Or.inl ⟨by rfl, ?oy1_r⟩) (by with_reducible exact HD.out.1) ?or1_r
          case oy1_r => (intro w hSw; skip; go_simp; try with_reducible rfl)
          try simp only [Act.put, List.setIfInBounds_toArray, List.set_cons_zero, List.set_cons_succ]
          refine anyT_take (i := 2) (v := ?ov2_r) (by simp only [List.getElem?_toArray, List.getElem?_cons_succ, List.getElem?_cons_zero]; exact rfl) (by kernel_rfl) (by kernel_rfl) (fun _ _ _ h => h) (by kernel_rfl) (by kernel_rfl) (Or.inl ⟨by rfl, ?oy2_r⟩) (by with_reducible exact HD.out.1) ?or2_r
          case oy2_r => (intro w hSw; skip; go_simp; try with_reducible rfl)
          try simp only [Act.put, List.setIfInBounds_toArray, List.set_cons_zero, List.set_cons_succ]
          refine anyT_take (i := 3) (v := ?ov3_r) (by simp only [List.getElem?_toArray, List.getElem?_cons_succ, List.getElem?_cons_zero]; exact rfl) (by kernel_rfl) (by kernel_rfl) (fun _ _ _ h => h) (by kernel_rfl) (by kernel_rfl) (Or.inl ⟨by rfl, ?oy3_r⟩) (by with_reducible exact HD.out.1) ?or3_r
          case oy3_r => (intro w hSw; obtain ⟨c0, c1, c2, c3, c4, c5⟩ := hSw.six; go_simp; try with_reducible rfl)
          try simp only [Act.put, List.setIfInBounds_toArray, List.set_cons_zero, List.set_cons_succ]
          refine anyT_take (i := 5) (v := ?ov5_r) (by simp only [List.getElem?_toArray, List.getElem?_cons_succ, List.getElem?_cons_zero]; exact rfl) (by kernel_rfl) (by kernel_rfl) (fun _ _ _ h => h) (by kernel_rfl) (by kernel_rfl) (Or.inl ⟨by rfl, ?oy5_r⟩) (by with_reducible exact HD.out.1) ?or5_r
          case oy5_r => (intro w hSw; skip; go_simp; try with_reducible rfl)
          try simp only [Act.put, List.setIfInBounds_toArray, List.set_cons_zero, List.set_cons_succ]
          refine anyT_take (i := 6) (v := ?ov6_r) (by simp only [List.getElem?_toArray, List.getElem?_cons_succ, List.getElem?_cons_zero]; exact rfl) (by kernel_rfl) (by kernel_rfl) (fun _ _ _ h => h) (by kernel_rfl) (by kernel_rfl) (Or.inl ⟨by rfl, ?oy6_r⟩) (by with_reducible exact HD.out.1) ?or6_r
          case oy6_r => (intro w hSw; skip; go_simp; try with_reducible rfl)
          try simp only [Act.put, List.setIfInBounds_toArray, List.set_cons_zero, List.set_cons_succ]
          refine anyT_take (i := 7) (v := ?ov7_r) (by simp only [List.getElem?_toArray, List.getElem?_cons_succ, List.getElem?_cons_zero]; exact rfl) (by kernel_rfl) (by kernel_rfl) (fun _ _ _ h => h) (by kernel_rfl) (by kernel_rfl) (Or.inl ⟨by rfl, ?oy7_r⟩) (by with_reducible exact HD.out.1) ?or7_r
          case oy7_r => (intro w hSw; obtain ⟨c0, c1, c2, c3, c4, c5⟩ := hSw.six; go_simp; try with_reducible rfl)
          try simp only [Act.put, List.setIfInBounds_toArray, List.set_cons_zero, List.set_cons_succ]
          refine anyT_take (i := 9) (v := ?ov9_r) (by simp only [List.getElem?_toArray, List.getElem?_cons_succ, List.getElem?_cons_zero]; exact rfl) (by kernel_rfl) (by kernel_rfl) (fun _ _ _ h => h) (by kernel_rfl) (by kernel_rfl) (Or.inl ⟨by rfl, ?oy9_r⟩) (by with_reducible exact HD.out.1) ?or9_r
          case oy9_r => (intro w hSw; skip; go_simp; try with_reducible rfl)
          try simp only [Act.put, List.setIfInBounds_toArray, List.set_cons_zero, List.set_cons_succ]
          refine anyT_take (i := 10) (v := ?ov10_r) (by simp only [List.getElem?_toArray, List.getElem?_cons_succ, List.getElem?_cons_zero]; exact rfl) (by kernel_rfl) (by kernel_rfl) (fun _ _ _ h => h) (by kernel_rfl) (by kernel_rfl) (Or.inl ⟨by rfl, ?oy10_r⟩) (by with_reducible exact HD.out.1) ?or10_r
          case oy10_r => (intro w hSw; skip; go_simp; try with_reducible rfl)
          try simp only [Act.put, List.setIfInBounds_toArray, List.set_cons_zero, List.set_cons_succ]
          refine anyT_take (i := 11) (v := ?ov11_r) (by simp only [List.getElem?_toArray, List.getElem?_cons_succ, List.getElem?_cons_zero]; exact rfl) (by kernel_rfl) (by kernel_rfl) (fun _ _ _ h => h) (by kernel_rfl) (by kernel_rfl) (Or.inl ⟨by rfl, ?oy11_r⟩) (by with_reducible exact HD.out.1) ?or11_r
          case oy11_r => (intro w hSw; obtain ⟨c0, c1, c2, c3, c4, c5⟩ := hSw.six; go_simp; try with_reducible rfl)
          try simp only [Act.put, List.setIfInBounds_toArray, List.set_cons_zero, List.set_cons_succ]
          refine anyT_take (i := 13) (v := ?ov13_r) (by simp only [List.getElem?_toArray, List.getElem?_cons_succ, List.getElem?_cons_zero]; exact rfl) (by kernel_rfl) (by kernel_rfl) (fun _ _ _ h => h) (by kernel_rfl) (by kernel_rfl) (Or.inl ⟨by rfl, ?oy13_r⟩) (by with_reducible exact HD.out.1) ?or13_r
          case oy13_r => (intro w hSw; skip; go_simp; try with_reducible rfl)
          try simp only [Act.put, List.setIfInBounds_toArray, List.set_cons_zero, List.set_cons_succ]
          refine anyT_take (i := 14) (v := ?ov14_r) (by simp only [List.getElem?_toArray, List.getElem?_cons_succ, List.getElem?_cons_zero]; exact rfl) (by kernel_rfl) (by kernel_rfl) (fun _ _ _ h => h) (by kernel_rfl) (by kernel_rfl) (Or.inl ⟨by rfl, ?oy14_r⟩) (by with_reducible exact HD.out.1) ?or14_r
          case oy14_r => (intro w hSw; skip; go_simp; try with_reducible rfl)
          try simp only [Act.put, List.setIfInBounds_toArray, List.set_cons_zero, List.set_cons_succ]
          refine anyT_take (i := 15) (v := ?ov15_r) (by simp only [List.getElem?_toArray, List.getElem?_cons_succ, List.getElem?_cons_zero]; exact rfl) (by kernel_rfl) (by kernel_rfl) (fun _ _ _ h => h) (by kernel_rfl) (by kernel_rfl) (Or.inl ⟨by rfl, ?oy15_r⟩) (by with_reducible exact HD.out.1) ?or15_r
          case oy15_r => (intro w hSw; obtain ⟨c0, c1, c2, c3, c4, c5⟩ := hSw.six; go_simp; try with_reducible rfl)
          try simp only [Act.put, List.setIfInBounds_toArray, List.set_cons_zero, List.set_cons_succ]
          refine anyT_one (i := 4) (by kernel_rfl) (by simp only [List.getElem?_toArray, List.getElem?_cons_succ, List.getElem?_cons_zero]; exact rfl) (fun K hK => ?_)
          try go_simp
          refine (rbnum HD.out.2.1 x.o.r.why (by rw [len_two]; have := HLP.out; have a1 := (num7_len x.o.s).2; omega) (by rcases HL.out.1 with e | e <;> omega) (by rcases HL.out.1 with e | e <;> omega)).mono ?_
          rintro e w4 ⟨y4, rfl, hy, hb⟩
          have HD4 := hide (show (Row w4 go 27 #[.int .i64 x.o.s, .int .i64 x.o.r.why, .bool x.o.r.fnd, .string x.o.r.val, .int .i64 x.o.r.ver, .slice x.A x.o.r.l.length x.c]) ∧ Below w1.heap.size w1 w4 from ⟨HD.out.1.below hb HD.out.1.lt, kept_trans HD.out.2.2 hb⟩)
          have HY4 := hide hy
          have HYL4 := hide (show (((encP s.l ++ ((ows L).take k).flatMap encO) ++ num7 x.o.s) ++ num7 x.o.r.why).length ≤ 50000 from by rw [len_two, len_two]; have := HLP.out; have a1 := (num7_len x.o.s).2; have a2 := (num7_len x.o.r.why).2; have a3 : (flg7 x.o.r.fnd).length = 1 := rfl; have a4 := (num7_len (x.o.r.val.size : Int)).2; have a5 := (num7_len x.o.r.ver).2; have := HL.out.2.1; omega)
          clear hy hb
          refine hK.out _ _ (fun e => HD4.out.1) ?_
          clear hK K
          try simp only [Act.put, List.setIfInBounds_toArray, List.set_cons_zero, List.set_cons_succ]
          refine anyT_one (i := 8) (by kernel_rfl) (by simp only [List.getElem?_toArray, List.getElem?_cons_succ, List.getElem?_cons_zero]; exact rfl) (fun K hK => ?_)
          try go_simp
          refine (rbflag HY4.out x.o.r.fnd (by have := HYL4.out; omega)).mono ?_
          rintro e w8 ⟨y8, rfl, hy, hb⟩
          have HD8 := hide (show (Row w8 go 27 #[.int .i64 x.o.s, .int .i64 x.o.r.why, .bool x.o.r.fnd, .string x.o.r.val, .int .i64 x.o.r.ver, .slice x.A x.o.r.l.length x.c]) ∧ Below w1.heap.size w1 w8 from ⟨HD4.out.1.below hb HD4.out.1.lt, kept_trans HD4.out.2 hb⟩)
          have HY8 := hide hy
          have HYL8 := hide (show ((((encP s.l ++ ((ows L).take k).flatMap encO) ++ num7 x.o.s) ++ num7 x.o.r.why) ++ flg7 x.o.r.fnd).length ≤ 50000 from by rw [len_two, len_two, len_two]; have := HLP.out; have a1 := (num7_len x.o.s).2; have a2 := (num7_len x.o.r.why).2; have a3 : (flg7 x.o.r.fnd).length = 1 := rfl; have a4 := (num7_len (x.o.r.val.size : Int)).2; have a5 := (num7_len x.o.r.ver).2; have := HL.out.2.1; omega)
          clear hy hb
          refine hK.out _ _ (fun e => HD8.out.1) ?_
          clear hK K
          try simp only [Act.put, List.setIfInBounds_toArray, List.set_cons_zero, List.set_cons_succ]
          refine anyT_one (i := 12) (by kernel_rfl) (by simp only [List.getElem?_toArray, List.getElem?_cons_succ, List.getElem?_cons_zero]; exact rfl) (fun K hK => ?_)
          try go_simp
          refine (rbtext HY8.out x.o.r.val (by have := HYL8.out; omega) HL.out.2.1).mono ?_
          rintro e w12 ⟨y12, rfl, hy, hb⟩
          have HD12 := hide (show (Row w12 go 27 #[.int .i64 x.o.s, .int .i64 x.o.r.why, .bool x.o.r.fnd, .string x.o.r.val, .int .i64 x.o.r.ver, .slice x.A x.o.r.l.length x.c]) ∧ Below w1.heap.size w1 w12 from ⟨HD8.out.1.below hb HD8.out.1.lt, kept_trans HD8.out.2 hb⟩)
          have HY12 := hide hy
          have HYL12 := hide (show (((((encP s.l ++ ((ows L).take k).flatMap encO) ++ num7 x.o.s) ++ num7 x.o.r.why) ++ flg7 x.o.r.fnd) ++ text7 x.o.r.val).length ≤ 50000 from by rw [len_two, len_two, len_two, len_two, text7_len]; have := HLP.out; have a1 := (num7_len x.o.s).2; have a2 := (num7_len x.o.r.why).2; have a3 : (flg7 x.o.r.fnd).length = 1 := rfl; have a4 := (num7_len (x.o.r.val.size : Int)).2; have a5 := (num7_len x.o.r.ver).2; have := HL.out.2.1; omega)
          clear hy hb
          refine hK.out _ _ (fun e => HD12.out.1) ?_
          clear hK K
          try simp only [Act.put, List.setIfInBounds_toArray, List.set_cons_zero, List.set_cons_succ]
          refine anyT_one (i := 16) (by kernel_rfl) (by simp only [List.getElem?_toArray, List.getElem?_cons_succ, List.getElem?_cons_zero]; exact rfl) (fun K hK => ?_)
          try go_simp
          refine (rbnum HY12.out x.o.r.ver (by have := HYL12.out; omega) (by have := HL.out.2.2.1; omega) HXO.out.2).mono ?_
          rintro e w16 ⟨y16, rfl, hy, hb⟩
          have HD16 := hide (show (Row w16 go 27 #[.int .i64 x.o.s, .int .i64 x.o.r.why, .bool x.o.r.fnd, .string x.o.r.val, .int .i64 x.o.r.ver, .slice x.A x.o.r.l.length x.c]) ∧ Below w1.heap.size w1 w16 from ⟨HD12.out.1.below hb HD12.out.1.lt, kept_trans HD12.out.2 hb⟩)
          have HY16 := hide hy
          have HYL16 := hide (show ((((((encP s.l ++ ((ows L).take k).flatMap encO) ++ num7 x.o.s) ++ num7 x.o.r.why) ++ flg7 x.o.r.fnd) ++ text7 x.o.r.val) ++ num7 x.o.r.ver).length ≤ 50000 from by rw [len_two, len_two, len_two, len_two, len_two, text7_len]; have := HLP.out; have a1 := (num7_len x.o.s).2; have a2 := (num7_len x.o.r.why).2; have a3 : (flg7 x.o.r.fnd).length = 1 := rfl; have a4 := (num7_len (x.o.r.val.size : Int)).2; have a5 := (num7_len x.o.r.ver).2; have := HL.out.2.1; omega)
          clear hy hb
          refine hK.out _ _ (fun e => HD16.out.1) ?_
          clear hK K
          try simp only [Act.put, List.setIfInBounds_toArray, List.set_cons_zero, List.set_cons_succ]
          refine anyT_one (i := 17) (by kernel_rfl) (by simp only [List.getElem?_toArray, List.getElem?_cons_succ, List.getElem?_cons_zero]; exact rfl) (fun K hK => ?_)
          try go_simp
          refine hK.out _ _ (fun e => absurd rfl e) ?_
          clear hK K
          refine anyT_done (by kernel_rfl) ?_
          refine NoPanic.normal ?_
          try simp only [Act.put]
          have HC17 := hide (rpairs_any y16 _ (.slice x.A x.o.r.l.length x.c) x.o.r.l w16 HY16.out (HP.out.below HD16.out.2) (fun q hq => ⟨right_may HL.out.2.2.2.2.1 q hq, HXO.out.1 q hq⟩) (by have := HL.out.2.2.2.1; omega) HYL16.out)
          obtain ⟨c0, c1, c2, c3, c4, c5⟩ := HD16.out.1.six
          go_wp2_with (go_at_call 52; (with_reducible refine HC17.out.mono ?_); rintro e w17 ⟨u17, rfl, hu17, hb17⟩)
          have HB17 := hide (kept_trans HD16.out.2 hb17)
          have HY17 : Hid (By w1.heap.size w17 u17 (encP s.l ++ ((ows L).take (k + 1)).flatMap encO)) := hide (by
            rw [HSN.out, ← List.append_assoc, HQ.out.2.2.2.2.2]
            have hh := hu17.mono HD16.out.2.size
            simpa using hh)
          go_roundw
          case rel => exact ⟨k + 1, by omega, by go_num, HY17, HB17⟩
          case measure => simp [intOf]; omega
      · obtain rfl : k = 8 := by omega
        have HE : Hid (encP s.l ++ ((ows L).take 8).flatMap encO = encS s) := hide (by rw [List.take_of_length_le (by rw [HOL.out]; exact Nat.le_refl _), HES.out, HA.out]; simp)
        go_wp2
        go_ret
        exact ⟨_, rfl, by rw [← HE.out]; exact HBY.out.mono HW1.out.size, kept_trans HW1.out HBR.out⟩
end Go.Proofs.Ytahfpncfkcfogaa
