/- The document's getPairs. Conditions: the reader lies in memory as it must. -/
import Derived.Test.YtahfpncfkcfogaaGbk
import Derived.Test.YtahfpncfkcfogaaGh
import Derived.LoopTactic
namespace Go.Proofs.Ytahfpncfkcfogaa
set_option maxRecDepth 100000
open Go.RowKit
section
variable {W w : World} {B g i h : Nat} {zs : List Int} {e : Int} {v : Value} {l : List Pr} {ty : TypeId} {cs : Array Value}
theorem Pz.rnum (s : Pz 105 W w B g zs i e v l h ty cs) : Calls Try.prog 64 #[.pointer (some ⟨g, 0, none⟩)] w fun y w' => y = .returned (.int .i64 (rNumV zs i e)) ∧ Pz 105 W w' B g zs (rNumA zs i e) (rNumE zs i e) v l h ty cs :=
  (rnum_to s.r).mono fun _ _ ⟨hy, hr, hg⟩ => ⟨hy, s.step hr hg⟩
theorem Pz.rtext (s : Pz 105 W w B g zs i e v l h ty cs) (m : Int) : Calls Try.prog 66 #[.pointer (some ⟨g, 0, none⟩), .int .i64 m] w fun y w' => y = .returned (.string (strOf (rTxtV zs i e m))) ∧ Pz 105 W w' B g zs (rTxtA zs i e m) (rTxtE zs i e m) v l h ty cs :=
  (rtext_to s.r m).mono fun _ _ ⟨hy, hr, hg⟩ => ⟨hy, s.step hr hg⟩
theorem Pz.rflag (s : Pz 105 W w B g zs i e v l h ty cs) : Calls Try.prog 65 #[.pointer (some ⟨g, 0, none⟩)] w fun y w' => y = .returned (.bool (rFlgV zs i e)) ∧ Pz 105 W w' B g zs (rFlgA zs i e) (rFlgE zs i e) v l h ty cs :=
  (rflag_to s.r).mono fun _ _ ⟨hy, hr, hg⟩ => ⟨hy, s.step hr hg⟩
end
set_option maxHeartbeats 8000000 in
theorem rgetpairs_any {w : World} {B g i : Nat} {zs : List Int} {e : Int} (h : Rdr 105 w B g zs i e) (m : Int) (m0 : 0 ≤ m) (m1 : m ≤ 1000) :
    Calls Try.prog 63 #[.pointer (some ⟨g, 0, none⟩), .int .i64 m] w (GotP 105 w B g zs i e m) := by
  have HC := hide (rcount_to h m)
  have HGL := hide h.lt
  have HGC := hide (got_cnt zs m i e)
  have HR := hide (cnt_range zs m i e m0)
  have HM := hide m1
  obtain ⟨n, hn⟩ : ∃ n : Nat, rCntV zs i e m = n := ⟨(rCntV zs i e m).toNat, by have := (cnt_range zs m i e m0).1; omega⟩
  rw [hn] at HC HGC HR
  generalize rCntA zs i e m = i1 at HC HGC
  generalize rCntE zs i e m = e1 at HC HGC
  clear h hn m0 m1
  go_enter Try.func63, Try.ntmps63
  go_wp2_with (go_at_call 93; (with_reducible refine HC.out.mono ?_); rintro y w1 ⟨rfl, hr1, hg1⟩)
  have HR1 := hide hr1
  have HG1 := hide hg1
  clear hr1 hg1 HC
  go_loopw [7, 5] (fun k v wr => ∃ (j : Nat) (l : List Pr) (i' : Nat) (e' : Int), j ≤ n ∧ k = .int .i64 j ∧ Hid (Rdr 105 wr B g zs i' e') ∧ Hid (Mine w.heap.size wr v l) ∧ Hid (l.length = j) ∧ Hid (w.grownBy wr (some g)) ∧ Hid (Fol (dPairsN zs) i1 e1 j l i' e')) (fun k _ _ => n - (intOf k).toNat)
  case atStart => exact ⟨0, [], i1, e1, Nat.zero_le _, rfl, HR1, Mine.nil_ _ _, hide rfl, HG1, Fol.start _ _ _⟩
  case round =>
    obtain ⟨j, l, i', e', hj, rfl, HRD, HOW, HLN, HGR, HFO⟩ := hrel
    by_cases hlt : j < n
    · have hlt' : (j : Int) < (n : Int) := by omega
      obtain ⟨X, cx, ev, hj2⟩ := HOW.out.pin
      subst ev
      clear hj2
      have hnm : n ≤ 1000 := by have := HR.out.2; have := HM.out; omega
      obtain ⟨A0, c0', _, _, d2, _⟩ := HRD.out.cells
      by_cases he : e' = 0
      case neg =>
        have heb : (e' == 0) = false := by simpa using he
        have HFE := hide (HFO.out (n - j) [] i' e' ⟨fun _ => rfl, fun h => absurd h he⟩)
        have hnj : j + (n - j) = n := by omega
        rw [hnj, List.append_nil] at HFE
        clear he hnj
        go_wp2
        go_ret
        exact ⟨_, l, i', e', rfl, HOW.out, by have := HLN.out; have := HR.out.2; omega, HRD.out, HGR.out, HGC.out.bnd HFE.out⟩
      have heb : (e' == 0) = true := by simpa using he
      clear he
      have HTC := hide (rtext_to HRD.out 16)
      have HT1 := hide (got_txt zs 16 i' e')
      generalize strOf (rTxtV zs i' e' 16) = sk at HTC HT1
      generalize rTxtA zs i' e' 16 = i2 at HTC HT1
      generalize rTxtE zs i' e' 16 = e2 at HTC HT1
      go_upto_region 7 with (go_at_call 66; (with_reducible refine HTC.out.mono ?_); rintro y w3 ⟨rfl, hr3, hg3⟩)
      clear d2 heb
      have OW3 := hide (HOW.out.apart hg3 (fun k hk => by cases hk; exact HGL.out))
      have P2 := hide (show Pz 105 w (w3.alloc (.cells #[.string sk, .string { data := #[] }, .int .i64 0] 47)) B g zs i2 e2 (.slice X l.length cx) l w3.heap.size 47 #[.string sk, .string { data := #[] }, .int .i64 0] from
        ⟨hr3.alloc _, OW3.out.alloc _, grown_al (grown_trans HGR.out hg3) _, Row.new w3 _ _, HGL.out, (grown_trans HGR.out hg3).size, OW3.out.offOld (Nat.le_refl _)⟩)
      clear hr3 hg3 HRD HOW HGR HTC OW3
      generalize w3.alloc (.cells #[.string sk, .string { data := #[] }, .int .i64 0] 47) = w4 at P2 ⊢
      generalize w3.heap.size = gp at P2 ⊢
      have f1 := P2.out.row.free 1
      go_upto_region 8 with (go_at_call 66; (with_reducible refine (P2.out.rtext 64).mono ?_); rintro y w5 ⟨rfl, p5⟩; clear f1; have f1 := p5.row.free 1; have d1 := p5.row.three.2.1)
      have P3 := hide (p5.put 1 (.string (strOf (rTxtV zs i2 e2 64))))
      clear p5 f1 d1 P2
      have HT2 := hide (got_txt zs 64 i2 e2)
      generalize strOf (rTxtV zs i2 e2 64) = sv at P3 HT2 ⊢
      generalize rTxtA zs i2 e2 64 = i3 at P3 HT2
      generalize rTxtE zs i2 e2 64 = e3 at P3 HT2
      generalize w5.setCell _ _ = w6 at P3 ⊢
      have f2 := P3.out.row.free 2
      go_upto_region 9 with (go_at_call 64; (with_reducible refine P3.out.rnum.mono ?_); rintro y w7 ⟨rfl, p7⟩; clear f2; have f2 := p7.row.free 2; have d2 := p7.row.three.2.2)
      have P4 := hide (p7.put 2 (.int .i64 (rNumV zs i3 e3)))
      clear p7 f2 d2 P3
      have HT3 := hide (got_num zs i3 e3)
      generalize rNumV zs i3 e3 = nv at P4 HT3 ⊢
      generalize rNumA zs i3 e3 = i4 at P4 HT3
      generalize rNumE zs i3 e3 = e4 at P4 HT3
      generalize w7.setCell _ _ = w8 at P4 ⊢
      have HFN := hide (HFO.out.pair (p := ⟨sk, sv, nv⟩) (show Got (dPair zs i') e' ⟨sk, sv, nv⟩ i4 e4 from HT1.out.bnd (HT2.out.bnd (HT3.out.bnd (Got.ok _ _ _)))))
      have R8 := hide (show Row w8 gp 47 #[.string sk, .string sv, .int .i64 nv] from P4.out.row)
      clear HT1 HT2 HT3 HFO
      have c0 := R8.out.three.1
      have c1 := R8.out.three.2.1
      have c2 := R8.out.three.2.2
      have PO := hide (prs_one w8 ⟨sk, sv, nv⟩ 47)
      have HRA := hide (P4.out.r.alloc (.cells #[.string sk, .string sv, .int .i64 nv] 47))
      have HOA := hide (P4.out.own.alloc (.cells #[.string sk, .string sv, .int .i64 nv] 47))
      have HGA := hide (grown_al P4.out.old (.cells #[.string sk, .string sv, .int .i64 nv] 47))
      have hsz := HGA.out.size
      have hlb : l.length + 1 ≤ 3518437208883 := by have := HLN.out; omega
      go_wp2_with (at_builtin; refine wpList_append_mine rfl (.tmp 33) (.tmp 35) rfl rfl HOA.out _ 1 1 rfl rfl (fun h => by cases h) PO.out hlb hsz ?_; intro v9 w9 hv9 hb9)
      have HV9 := hide hv9
      have HR9 := hide (show Rdr 105 w9 B g zs i4 e4 from HRA.out.keep (fun k hk => hb9.block k (by have := HRA.out.low; have := HRA.out.lt; omega) (fun e => by have := HOA.out.lt k e.symm; have := HGL.out; have := HRA.out.low; omega)) (hb9.block g HRA.out.lt (fun e => by have := HOA.out.lt g e.symm; have := HGL.out; omega)))
      have HG9 := hide (show w.grownBy w9 (some g) from ⟨by first | exact hb9.os.trans HGA.out.os | exact HGA.out.os.trans hb9.os, by first | exact hb9.tape.trans HGA.out.tape | exact HGA.out.tape.trans hb9.tape, by first | exact hb9.output.trans HGA.out.output | exact HGA.out.output.trans hb9.output, Nat.le_trans HGA.out.size hb9.size, fun k hk hn => (hb9.block k (Nat.lt_of_lt_of_le hk HGA.out.size) (fun e => by have := HOA.out.lt k e.symm; omega)).trans (HGA.out.block k hk hn)⟩)
      clear hv9 hb9 c0 c1 c2 PO HRA HOA HGA P4 R8
      go_roundw
      case rel => exact ⟨j + 1, l ++ [⟨sk, sv, nv⟩], i4, e4, by omega, by go_num, HR9, HV9, hide (by rw [List.length_append, HLN.out]; rfl), HG9, HFN⟩
      case measure => simp [intOf]; omega
    · obtain rfl : j = n := by omega
      go_wp2
      go_ret
      exact ⟨_, l, i', e', rfl, HOW.out, by have := HLN.out; have := HR.out.2; omega, HRD.out, HGR.out, HGC.out.bnd HFO.out.pairs_end⟩
end Go.Proofs.Ytahfpncfkcfogaa
