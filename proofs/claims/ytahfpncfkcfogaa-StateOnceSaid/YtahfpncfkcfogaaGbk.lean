/- What a reader gives, held against what bytes are taken as; the program's getPairs. Conditions: the reader lies in memory as it must. -/
import Derived.Test.YtahfpncfkcfogaaGx
import Derived.Test.YtahfpncfkcfogaaGi
import Derived.Test.YtahfpncfkcfogaaGk
import Derived.LoopTactic
import Derived.Test.YtahfpncfkcfogaaGa
namespace Go.Proofs.Ytahfpncfkcfogaa
set_option maxRecDepth 100000
open Go.RowKit
/-- A read that began with the error e gave v, and stands at i' with the error e'. -/
def Got {α : Type} (d : Rdm α) (e : Int) (v : α) (i' : Nat) (e' : Int) : Prop :=
  (e ≠ 0 → e' = e) ∧ (e = 0 → match d with
    | .ok (a, j) => v = a ∧ i' = j ∧ e' = 0
    | .error x => e' = x ∧ x ≠ 0)
theorem Got.ok {α : Type} (a : α) (j : Nat) (e : Int) : Got (.ok (a, j)) e a j e := ⟨fun _ => rfl, fun h => ⟨rfl, rfl, h⟩⟩
theorem Got.bnd {α β : Type} {d : Rdm α} {f : α → Nat → Rdm β} {e e1 e2 : Int} {v : α} {u : β} {i1 i2 : Nat} (h : Got d e v i1 e1) (k : Got (f v i1) e1 u i2 e2) : Got (bnd d f) e u i2 e2 := by
  refine ⟨fun h0 => ?_, fun h0 => ?_⟩
  · have h1 := h.1 h0
    rw [k.1 (by rw [h1]; exact h0), h1]
  · have h1 := h.2 h0
    unfold Go.Proofs.Ytahfpncfkcfogaa.bnd
    cases d with
    | error x =>
      obtain ⟨h1, h2⟩ := h1
      exact ⟨by rw [k.1 (by rw [h1]; exact h2), h1], h2⟩
    | ok a =>
      obtain ⟨a, j⟩ := a
      obtain ⟨rfl, rfl, h3⟩ := h1
      exact k.2 h3
theorem got_num (zs : List Int) (i : Nat) (e : Int) : Got (dNum zs i) e (rNumV zs i e) (rNumA zs i e) (rNumE zs i e) := by
  refine ⟨fun h => by unfold rNumE; rw [if_neg h], fun h => ?_⟩
  subst h
  have h1 : rNumE zs i 0 = rdE (zs.drop i) := by unfold rNumE; rw [if_pos rfl]
  unfold dNum rNumV rNumA
  rw [h1]
  by_cases h : rdE (zs.drop i) = 0
  · rw [if_pos h, if_pos h, if_pos h]; exact ⟨rfl, rfl, h⟩
  · rw [if_neg h]; exact ⟨rfl, h⟩
theorem got_cnt (zs : List Int) (m : Int) (i : Nat) (e : Int) : Got (dCnt zs m i) e (rCntV zs i e m) (rCntA zs i e m) (rCntE zs i e m) := by
  refine ⟨fun h => by unfold rCntE; rw [if_neg h], fun h => ?_⟩
  subst h
  have h1 : rCntE zs i 0 m = cntE (zs.drop i) m := by unfold rCntE; rw [if_pos rfl]
  unfold dCnt rCntV rCntA
  rw [h1]
  by_cases h : cntE (zs.drop i) m = 0
  · rw [if_pos h, if_pos h, if_pos h]; exact ⟨rfl, rfl, h⟩
  · rw [if_neg h]; exact ⟨rfl, h⟩
theorem got_txt (zs : List Int) (m : Int) (i : Nat) (e : Int) : Got (dTxt zs m i) e (strOf (rTxtV zs i e m)) (rTxtA zs i e m) (rTxtE zs i e m) := by
  refine ⟨fun h => by unfold rTxtE; rw [if_neg h], fun h => ?_⟩
  subst h
  have h1 : rTxtE zs i 0 m = txtE (zs.drop i) m := by unfold rTxtE; rw [if_pos rfl]
  unfold dTxt rTxtV rTxtA
  rw [h1]
  by_cases h : txtE (zs.drop i) m = 0
  · rw [if_pos h, if_pos h, if_pos h]; exact ⟨rfl, rfl, h⟩
  · rw [if_neg h]; exact ⟨rfl, h⟩
theorem got_flg (zs : List Int) (i : Nat) (e : Int) : Got (dFlg zs i) e (rFlgV zs i e) (rFlgA zs i e) (rFlgE zs i e) := by
  refine ⟨fun h => by unfold rFlgE; rw [if_neg h], fun h => ?_⟩
  subst h
  have h1 : rFlgE zs i 0 = flgE zs i := by unfold rFlgE flgE; rw [if_pos rfl]
  unfold dFlg rFlgV rFlgA
  rw [h1]
  by_cases h : flgE zs i = 0
  · rw [if_pos h, if_pos h]; exact ⟨by simp [h], rfl, h⟩
  · rw [if_neg h]; exact ⟨rfl, h⟩
theorem cnt_range (zs : List Int) (m : Int) (i : Nat) (e : Int) (hm : 0 ≤ m) : 0 ≤ rCntV zs i e m ∧ rCntV zs i e m ≤ m := by
  unfold rCntV
  split
  · rename_i h
    unfold rCntE at h
    split at h
    · unfold cntE at h
      split at h
      · split at h
        · cases h
        · omega
      · contradiction
    · contradiction
  · omega
/-- What a list read so far, and what follows, come to. -/
def Fol {α : Type} (d : Nat → Nat → Rdm (List α)) (i0 : Nat) (e0 : Int) (k : Nat) (l : List α) (i : Nat) (e : Int) : Prop :=
  ∀ r l2 i2 e2, Got (d r i) e l2 i2 e2 → Got (d (k + r) i0) e0 (l ++ l2) i2 e2
theorem Fol.start {α : Type} (d : Nat → Nat → Rdm (List α)) (i0 : Nat) (e0 : Int) : Fol d i0 e0 0 [] i0 e0 := fun r l2 i2 e2 h => by
  rw [Nat.zero_add, List.nil_append]; exact h
theorem Fol.pair {zs : List Int} {i0 k i i' : Nat} {e0 e e' : Int} {l : List Pr} {p : Pr} (h : Fol (dPairsN zs) i0 e0 k l i e) (hp : Got (dPair zs i) e p i' e') : Fol (dPairsN zs) i0 e0 (k + 1) (l ++ [p]) i' e' := fun r l2 i2 e2 g => by
  have := h (r + 1) (p :: l2) i2 e2 (hp.bnd (g.bnd (Got.ok _ _ _)))
  rw [show k + 1 + r = k + (r + 1) by omega, List.append_assoc]
  exact this
theorem Fol.own {zs : List Int} {i0 k i i' : Nat} {e0 e e' : Int} {l : List Ow} {p : Ow} (h : Fol (dOwns zs) i0 e0 k l i e) (hp : Got (dOwn zs i) e p i' e') : Fol (dOwns zs) i0 e0 (k + 1) (l ++ [p]) i' e' := fun r l2 i2 e2 g => by
  have := h (r + 1) (p :: l2) i2 e2 (hp.bnd (g.bnd (Got.ok _ _ _)))
  rw [show k + 1 + r = k + (r + 1) by omega, List.append_assoc]
  exact this
theorem Fol.pairs_end {zs : List Int} {i0 k i : Nat} {e0 e : Int} {l : List Pr} (h : Fol (dPairsN zs) i0 e0 k l i e) : Got (dPairsN zs k i0) e0 l i e := by
  have := h 0 [] i e (Got.ok _ _ _)
  rwa [List.append_nil, Nat.add_zero] at this
theorem Fol.owns_end {zs : List Int} {i0 k i : Nat} {e0 e : Int} {l : List Ow} (h : Fol (dOwns zs) i0 e0 k l i e) : Got (dOwns zs k i0) e0 l i e := by
  have := h 0 [] i e (Got.ok _ _ _)
  rwa [List.append_nil, Nat.add_zero] at this
theorem grown_al {a b : World} {row : Option Nat} (h : a.grownBy b row) (o : Obj) : a.grownBy (b.alloc o) row :=
  ⟨h.os, h.tape, h.output, by have := h.size; simp; omega, fun k hk hr => (Below.heap_alloc b o k (by have := h.size; omega)).trans (h.block k hk hr)⟩
/-- The reader, own pairs, and a block that is being filled. -/
structure Pz (t : TypeId) (W w : World) (B g : Nat) (zs : List Int) (i : Nat) (e : Int) (v : Value) (l : List Pr) (h : Nat) (ty : TypeId) (cs : Array Value) : Prop where
  r : Rdr t w B g zs i e
  own : Mine W.heap.size w v l
  old : W.grownBy w (some g)
  row : Row w h ty cs
  gl : g < W.heap.size
  hl : W.heap.size ≤ h
  off : Off v h
section
variable {t ty : TypeId} {W w w' : World} {B g i i' h : Nat} {zs : List Int} {e e' : Int} {v : Value} {l : List Pr} {cs : Array Value}
theorem grown_set {a b : World} {g h : Nat} (hb : a.grownBy b (some g)) (hh : a.heap.size ≤ h) (i : Nat) (u : Value) : a.grownBy (b.setCell ⟨h, i, none⟩ u) (some g) :=
  ⟨hb.os, hb.tape, hb.output, by have := hb.size; simpa [World.setCell] using this, fun k hk hn => (Below.heap_setCell b ⟨h, i, none⟩ u k (by show k ≠ h; omega)).trans (hb.block k hk hn)⟩
theorem Pz.step (s : Pz t W w B g zs i e v l h ty cs) (hr : Rdr t w' B g zs i' e') (hg : w.grownBy w' (some g)) : Pz t W w' B g zs i' e' v l h ty cs :=
  have h1 := s.gl
  have h2 := s.hl
  ⟨hr, s.own.apart hg (fun k hk => by cases hk; exact h1), grown_trans s.old hg, s.row.far hg (by omega), h1, h2, s.off⟩
theorem Pz.put (s : Pz t W w B g zs i e v l h ty cs) (j : Nat) (u : Value) : Pz t W (w.setCell ⟨h, j, none⟩ u) B g zs i e v l h ty (cs.setIfInBounds j u) :=
  have h1 := s.gl
  have h2 := s.hl
  have h3 := s.r.low
  ⟨s.r.far (grown_setCell w h j u) (by omega) (by omega), s.own.putOff s.off j u, grown_set s.old h2 j u, s.row.put j u, h1, h2, s.off⟩
end
section
variable {W w : World} {B g i h : Nat} {zs : List Int} {e : Int} {v : Value} {l : List Pr} {ty : TypeId} {cs : Array Value}
theorem Pz.num (s : Pz 127 W w B g zs i e v l h ty cs) : Calls Try.prog 90 #[.pointer (some ⟨g, 0, none⟩)] w fun y w' => y = .returned (.int .i64 (rNumV zs i e)) ∧ Pz 127 W w' B g zs (rNumA zs i e) (rNumE zs i e) v l h ty cs :=
  (pnum_any s.r).mono fun _ _ ⟨hy, hr, hg⟩ => ⟨hy, s.step hr hg⟩
theorem Pz.text (s : Pz 127 W w B g zs i e v l h ty cs) (m : Int) : Calls Try.prog 89 #[.pointer (some ⟨g, 0, none⟩), .int .i64 m] w fun y w' => y = .returned (.string (strOf (rTxtV zs i e m))) ∧ Pz 127 W w' B g zs (rTxtA zs i e m) (rTxtE zs i e m) v l h ty cs :=
  (ptext_any s.r m).mono fun _ _ ⟨hy, hr, hg⟩ => ⟨hy, s.step hr hg⟩
theorem Pz.flag (s : Pz 127 W w B g zs i e v l h ty cs) : Calls Try.prog 91 #[.pointer (some ⟨g, 0, none⟩)] w fun y w' => y = .returned (.bool (rFlgV zs i e)) ∧ Pz 127 W w' B g zs (rFlgA zs i e) (rFlgE zs i e) v l h ty cs :=
  (pflag_any s.r).mono fun _ _ ⟨hy, hr, hg⟩ => ⟨hy, s.step hr hg⟩
end
/-- Pairs were read. -/
def GotP (t : TypeId) (w : World) (B g : Nat) (zs : List Int) (i : Nat) (e : Int) (m : Int) (y : Ending) (w' : World) : Prop :=
  ∃ u l i' e', y = .returned u ∧ Mine w.heap.size w' u l ∧ (l.length : Int) ≤ m ∧ Rdr t w' B g zs i' e' ∧ w.grownBy w' (some g) ∧ Got (dPairs zs m i) e l i' e'
set_option maxHeartbeats 8000000 in
theorem getpairs_any {w : World} {B g i : Nat} {zs : List Int} {e : Int} (h : Rdr 127 w B g zs i e) (m : Int) (m0 : 0 ≤ m) (m1 : m ≤ 1000) :
    Calls Try.prog 59 #[.pointer (some ⟨g, 0, none⟩), .int .i64 m] w (GotP 127 w B g zs i e m) := by
  have HC := hide (pcount_any h m)
  have HGL := hide h.lt
  have HGC := hide (got_cnt zs m i e)
  have HR := hide (cnt_range zs m i e m0)
  have HM := hide m1
  obtain ⟨n, hn⟩ : ∃ n : Nat, rCntV zs i e m = n := ⟨(rCntV zs i e m).toNat, by have := (cnt_range zs m i e m0).1; omega⟩
  rw [hn] at HC HGC HR
  generalize rCntA zs i e m = i1 at HC HGC
  generalize rCntE zs i e m = e1 at HC HGC
  clear h hn m0 m1
  go_enter Try.func59, Try.ntmps59
  go_wp2_with (go_at_call 88; (with_reducible refine HC.out.mono ?_); rintro y w1 ⟨rfl, hr1, hg1⟩)
  have HR1 := hide hr1
  have HG1 := hide hg1
  clear hr1 hg1 HC
  go_loopw [10, 5] (fun k v wr => ∃ (j : Nat) (l : List Pr) (i' : Nat) (e' : Int), j ≤ n ∧ k = .int .i64 j ∧ Hid (Rdr 127 wr B g zs i' e') ∧ Hid (Mine w.heap.size wr v l) ∧ Hid (l.length = j) ∧ Hid (w.grownBy wr (some g)) ∧ Hid (Fol (dPairsN zs) i1 e1 j l i' e')) (fun k _ _ => n - (intOf k).toNat)
  case atStart => exact ⟨0, [], i1, e1, Nat.zero_le _, rfl, HR1, Mine.nil_ _ _, hide rfl, HG1, Fol.start _ _ _⟩
  case round =>
    obtain ⟨j, l, i', e', hj, rfl, HRD, HOW, HLN, HGR, HFO⟩ := hrel
    by_cases hlt : j < n
    · have hlt' : (j : Int) < (n : Int) := by omega
      obtain ⟨X, cx, ev, _⟩ := HOW.out.pin
      subst ev
      have hnm : n ≤ 1000 := by have := HR.out.2; have := HM.out; omega
      go_upto_region 5 with (fail)
      have P1 := hide (show Pz 127 w (wr.alloc (.cells #[.string { data := #[] }, .string { data := #[] }, .int .i64 0] 47)) B g zs i' e' (.slice X l.length cx) l wr.heap.size 47 #[.string { data := #[] }, .string { data := #[] }, .int .i64 0] from
        ⟨HRD.out.alloc _, HOW.out.alloc _, grown_al HGR.out _, Row.new wr _ _, HGL.out, HGR.out.size, HOW.out.offOld (Nat.le_refl _)⟩)
      clear HRD HOW HGR
      generalize wr.alloc (.cells #[.string { data := #[] }, .string { data := #[] }, .int .i64 0] 47) = w2 at P1 ⊢
      generalize wr.heap.size = gp at P1 ⊢
      have f0 := P1.out.row.free 0
      have d0 := P1.out.row.three.1
      go_upto_region 6 with (go_at_call 89; (with_reducible refine (P1.out.text 16).mono ?_); rintro y w3 ⟨rfl, p3⟩; clear f0 d0; have f0 := p3.row.free 0; have d0 := p3.row.three.1)
      have P2 := hide (p3.put 0 (.string (strOf (rTxtV zs i' e' 16))))
      clear p3 f0 d0 P1
      have HT1 := hide (got_txt zs 16 i' e')
      generalize strOf (rTxtV zs i' e' 16) = sk at P2 HT1 ⊢
      generalize rTxtA zs i' e' 16 = i2 at P2 HT1
      generalize rTxtE zs i' e' 16 = e2 at P2 HT1
      generalize w3.setCell _ _ = w4 at P2 ⊢
      have f1 := P2.out.row.free 1
      go_upto_region 7 with (go_at_call 89; (with_reducible refine (P2.out.text 64).mono ?_); rintro y w5 ⟨rfl, p5⟩; clear f1; have f1 := p5.row.free 1; have d1 := p5.row.three.2.1)
      have P3 := hide (p5.put 1 (.string (strOf (rTxtV zs i2 e2 64))))
      clear p5 f1 d1 P2
      have HT2 := hide (got_txt zs 64 i2 e2)
      generalize strOf (rTxtV zs i2 e2 64) = sv at P3 HT2 ⊢
      generalize rTxtA zs i2 e2 64 = i3 at P3 HT2
      generalize rTxtE zs i2 e2 64 = e3 at P3 HT2
      generalize w5.setCell _ _ = w6 at P3 ⊢
      have f2 := P3.out.row.free 2
      go_upto_region 8 with (go_at_call 90; (with_reducible refine P3.out.num.mono ?_); rintro y w7 ⟨rfl, p7⟩; clear f2; have f2 := p7.row.free 2; have d2 := p7.row.three.2.2)
      have P4 := hide (p7.put 2 (.int .i64 (rNumV zs i3 e3)))
      clear p7 f2 d2 P3
      have HT3 := hide (got_num zs i3 e3)
      generalize rNumV zs i3 e3 = nv at P4 HT3 ⊢
      generalize rNumA zs i3 e3 = i4 at P4 HT3
      generalize rNumE zs i3 e3 = e4 at P4 HT3
      generalize w7.setCell _ _ = w8 at P4 ⊢
      have HFN := hide (HFO.out.pair (p := ⟨sk, sv, nv⟩) (show Got (dPair zs i') e' ⟨sk, sv, nv⟩ i4 e4 from HT1.out.bnd (HT2.out.bnd (HT3.out.bnd (Got.ok _ _ _)))))
      have R8 := hide (show Row w8 gp 47 #[.string sk, .string sv, .int .i64 nv] from P4.out.row)
      clear HT1 HT2 HT3 HFO
      have c0 := R8.out.three.1
      have c1 := R8.out.three.2.1
      have c2 := R8.out.three.2.2
      have PO := hide (prs_one w8 ⟨sk, sv, nv⟩ 47)
      have HRA := hide (P4.out.r.alloc (.cells #[.string sk, .string sv, .int .i64 nv] 47))
      have HOA := hide (P4.out.own.alloc (.cells #[.string sk, .string sv, .int .i64 nv] 47))
      have HGA := hide (grown_al P4.out.old (.cells #[.string sk, .string sv, .int .i64 nv] 47))
      have hsz := HGA.out.size
      have hlb : l.length + 1 ≤ 3518437208883 := by have := HLN.out; omega
      go_wp2_with (at_builtin; refine wpList_append_mine rfl (.tmp 21) (.tmp 23) rfl rfl HOA.out _ 1 1 rfl rfl (fun h => by cases h) PO.out hlb hsz ?_; intro v9 w9 hv9 hb9)
      have HV9 := hide hv9
      have HR9 := hide (show Rdr 127 w9 B g zs i4 e4 from HRA.out.keep (fun k hk => hb9.block k (by have := HRA.out.low; have := HRA.out.lt; omega) (fun e => by have := HOA.out.lt k e.symm; have := HGL.out; have := HRA.out.low; omega)) (hb9.block g HRA.out.lt (fun e => by have := HOA.out.lt g e.symm; have := HGL.out; omega)))
      have HG9 := hide (show w.grownBy w9 (some g) from ⟨by first | exact hb9.os.trans HGA.out.os | exact HGA.out.os.trans hb9.os, by first | exact hb9.tape.trans HGA.out.tape | exact HGA.out.tape.trans hb9.tape, by first | exact hb9.output.trans HGA.out.output | exact HGA.out.output.trans hb9.output, Nat.le_trans HGA.out.size hb9.size, fun k hk hn => (hb9.block k (Nat.lt_of_lt_of_le hk HGA.out.size) (fun e => by have := HOA.out.lt k e.symm; omega)).trans (HGA.out.block k hk hn)⟩)
      clear hv9 hb9 c0 c1 c2 PO HRA HOA HGA P4 R8
      go_roundw
      case rel => exact ⟨j + 1, l ++ [⟨sk, sv, nv⟩], i4, e4, by omega, by go_num, HR9, HV9, hide (by rw [List.length_append, HLN.out]; rfl), HG9, HFN⟩
      case measure => simp [intOf]; omega
    · obtain rfl : j = n := by omega
      go_wp2
      go_ret
      exact ⟨_, l, i', e', rfl, HOW.out, by have := HLN.out; have := HR.out.2; omega, HRD.out, HGR.out, HGC.out.bnd HFO.out.pairs_end⟩
end Go.Proofs.Ytahfpncfkcfogaa
/- The program's getOwner. Conditions: the reader lies in memory as it must. -/
namespace Go.Proofs.Ytahfpncfkcfogaa
set_option maxRecDepth 100000
open Go.RowKit
theorem results_row6 {fn : Func} {tmps : Array Value} {w : World} {a h : Nat} {t : TypeId} {c0 c1 c2 c3 c4 c5 : Value} (hf : fn.results = #[.cell a 27]) (ht : tmps[a]? = some (.pointer (some ⟨h, 0, none⟩))) (hr : Row w h t #[c0, c1, c2, c3, c4, c5]) :
    (results fn tmps).run Try.prog w = .ok (.agg #[c0, c1, c2, c3, c4, c5]) w := by
  obtain ⟨h0, h1, h2, h3, h4, h5⟩ := hr.six
  simp [results, hf, ht, go_sem, h0, h1, h2, h3, h4, h5]
theorem six_put {a b c d e f u0 u1 u2 u3 u4 u5 : Value} : ((((((#[a, b, c, d, e, f] : Array Value).setIfInBounds 0 u0).setIfInBounds 1 u1).setIfInBounds 2 u2).setIfInBounds 3 u3).setIfInBounds 4 u4).setIfInBounds 5 u5 = #[u0, u1, u2, u3, u4, u5] := by
  simp
theorem Row.six_put {w : World} {h : Nat} {t : TypeId} {a b c d e f : Value} (r : Row w h t #[a, b, c, d, e, f]) (u0 u1 u2 u3 u4 u5 : Value) :
    Row ((((((w.setCell ⟨h, 0, none⟩ u0).setCell ⟨h, 1, none⟩ u1).setCell ⟨h, 2, none⟩ u2).setCell ⟨h, 3, none⟩ u3).setCell ⟨h, 4, none⟩ u4).setCell ⟨h, 5, none⟩ u5) h t #[u0, u1, u2, u3, u4, u5] := by
  have z := (((((r.put 0 u0).put 1 u1).put 2 u2).put 3 u3).put 4 u4).put 5 u5
  rw [Go.Proofs.Ytahfpncfkcfogaa.six_put] at z
  exact z
def zero6 : Array Value := #[.int .i64 0, .int .i64 0, .bool false, .string { data := #[] }, .int .i64 0, .slice none 0 0]
/-- The reader, the answer's block, an owner that is being filled. -/
structure Oz (t : TypeId) (W w : World) (B g : Nat) (zs : List Int) (i : Nat) (e : Int) (h2 h : Nat) (cs : Array Value) : Prop where
  r : Rdr t w B g zs i e
  old : W.grownBy w (some g)
  row : Row w h 27 cs
  res : Row w h2 27 zero6
  gl : g < W.heap.size
  hl : W.heap.size ≤ h2
  lt : h2 < h
section
variable {t : TypeId} {W w w' : World} {B g i i' h2 h : Nat} {zs : List Int} {e e' : Int} {cs : Array Value}
theorem Oz.step (s : Oz t W w B g zs i e h2 h cs) (hr : Rdr t w' B g zs i' e') (hg : w.grownBy w' (some g)) : Oz t W w' B g zs i' e' h2 h cs :=
  have h1 := s.gl
  have h2 := s.hl
  have h3 := s.lt
  ⟨hr, grown_trans s.old hg, s.row.far hg (by omega), s.res.far hg (by omega), h1, h2, h3⟩
theorem Oz.put (s : Oz t W w B g zs i e h2 h cs) (j : Nat) (u : Value) : Oz t W (w.setCell ⟨h, j, none⟩ u) B g zs i e h2 h (cs.setIfInBounds j u) :=
  have h1 := s.gl
  have h2 := s.hl
  have h3 := s.lt
  have h4 := s.r.low
  ⟨s.r.far (grown_setCell w h j u) (by omega) (by omega), grown_set s.old (by omega) j u, s.row.put j u, s.res.putOff (by omega) u, h1, h2, h3⟩
theorem Oz.six (s : Oz t W w B g zs i e h2 h cs) (u0 u1 u2 u3 u4 u5 : Value) : Rdr t ((((((w.setCell ⟨h2, 0, none⟩ u0).setCell ⟨h2, 1, none⟩ u1).setCell ⟨h2, 2, none⟩ u2).setCell ⟨h2, 3, none⟩ u3).setCell ⟨h2, 4, none⟩ u4).setCell ⟨h2, 5, none⟩ u5) B g zs i e ∧
    W.grownBy ((((((w.setCell ⟨h2, 0, none⟩ u0).setCell ⟨h2, 1, none⟩ u1).setCell ⟨h2, 2, none⟩ u2).setCell ⟨h2, 3, none⟩ u3).setCell ⟨h2, 4, none⟩ u4).setCell ⟨h2, 5, none⟩ u5) (some g) ∧
    Row ((((((w.setCell ⟨h2, 0, none⟩ u0).setCell ⟨h2, 1, none⟩ u1).setCell ⟨h2, 2, none⟩ u2).setCell ⟨h2, 3, none⟩ u3).setCell ⟨h2, 4, none⟩ u4).setCell ⟨h2, 5, none⟩ u5) h2 27 #[u0, u1, u2, u3, u4, u5] :=
  have h1 := s.gl
  have h2 := s.hl
  have h4 := s.r.low
  ⟨((((((s.r.far (grown_setCell _ _ 0 u0) (by omega) (by omega)).far (grown_setCell _ _ 1 u1) (by omega) (by omega)).far (grown_setCell _ _ 2 u2) (by omega) (by omega)).far (grown_setCell _ _ 3 u3) (by omega) (by omega)).far (grown_setCell _ _ 4 u4) (by omega) (by omega)).far (grown_setCell _ _ 5 u5) (by omega) (by omega)),
   grown_set (grown_set (grown_set (grown_set (grown_set (grown_set s.old h2 0 u0) h2 1 u1) h2 2 u2) h2 3 u3) h2 4 u4) h2 5 u5,
   Row.six_put s.res u0 u1 u2 u3 u4 u5⟩
end
section
variable {W w : World} {B g i h2 h : Nat} {zs : List Int} {e : Int} {cs : Array Value}
theorem Oz.num (s : Oz 127 W w B g zs i e h2 h cs) : Calls Try.prog 90 #[.pointer (some ⟨g, 0, none⟩)] w fun y w' => y = .returned (.int .i64 (rNumV zs i e)) ∧ Oz 127 W w' B g zs (rNumA zs i e) (rNumE zs i e) h2 h cs :=
  (pnum_any s.r).mono fun _ _ ⟨hy, hr, hg⟩ => ⟨hy, s.step hr hg⟩
theorem Oz.text (s : Oz 127 W w B g zs i e h2 h cs) (m : Int) : Calls Try.prog 89 #[.pointer (some ⟨g, 0, none⟩), .int .i64 m] w fun y w' => y = .returned (.string (strOf (rTxtV zs i e m))) ∧ Oz 127 W w' B g zs (rTxtA zs i e m) (rTxtE zs i e m) h2 h cs :=
  (ptext_any s.r m).mono fun _ _ ⟨hy, hr, hg⟩ => ⟨hy, s.step hr hg⟩
theorem Oz.flag (s : Oz 127 W w B g zs i e h2 h cs) : Calls Try.prog 91 #[.pointer (some ⟨g, 0, none⟩)] w fun y w' => y = .returned (.bool (rFlgV zs i e)) ∧ Oz 127 W w' B g zs (rFlgA zs i e) (rFlgE zs i e) h2 h cs :=
  (pflag_any s.r).mono fun _ _ ⟨hy, hr, hg⟩ => ⟨hy, s.step hr hg⟩
end
/-- An owner was read. -/
def GotO (t : TypeId) (w : World) (B g : Nat) (zs : List Int) (i : Nat) (e : Int) (y : Ending) (w' : World) : Prop :=
  ∃ (x : Co) (i' : Nat) (e' : Int), y = .returned (.agg #[.int .i64 x.o.s, .int .i64 x.o.r.why, .bool x.o.r.fnd, .string x.o.r.val, .int .i64 x.o.r.ver, .slice x.A x.o.r.l.length x.c]) ∧ Mine w.heap.size w' x.p x.o.r.l ∧ x.o.r.l.length ≤ 8 ∧ Rdr t w' B g zs i' e' ∧ w.grownBy w' (some g) ∧ Got (dOwn zs i) e x.o i' e'
set_option maxHeartbeats 8000000 in
theorem getowner_any {w : World} {B g i : Nat} {zs : List Int} {e : Int} (h : Rdr 127 w B g zs i e) :
    Calls Try.prog 60 #[.pointer (some ⟨g, 0, none⟩)] w (GotO 127 w B g zs i e) := by
  have HZ : Hid (zero6 = #[.int .i64 0, .int .i64 0, .bool false, .string { data := #[] }, .int .i64 0, .slice none 0 0]) := hide rfl
  have HGL := hide h.lt
  have HR0 := hide (h.alloc (.cells #[.int .i64 0, .int .i64 0, .bool false, .string { data := #[] }, .int .i64 0, .slice none 0 0] 27))
  have HN0 := hide (Row.new w 27 zero6)
  have HK0 := hide (grown_al (grown_refl w (some g)) (.cells #[.int .i64 0, .int .i64 0, .bool false, .string { data := #[] }, .int .i64 0, .slice none 0 0] 27))
  have HS0 : Hid ((w.alloc (.cells #[.int .i64 0, .int .i64 0, .bool false, .string { data := #[] }, .int .i64 0, .slice none 0 0] 27)).heap.size = w.heap.size + 1) := hide (by simp)
  rw [HZ.out] at HN0
  clear h
  have HG1 := hide (got_num zs i e)
  go_enter Try.func60, Try.ntmps60
  go_upto_region 1 with (fail)
  generalize w.alloc (.cells #[.int .i64 0, .int .i64 0, .bool false, .string { data := #[] }, .int .i64 0, .slice none 0 0] 27) = w1 at HR0 HN0 HK0 HS0 ⊢
  have HC := hide (pnum_any HR0.out)
  obtain ⟨s, hs⟩ : ∃ s, rNumV zs i e = s := ⟨_, rfl⟩
  rw [hs] at HC HG1
  generalize rNumA zs i e = i1 at HC HG1
  generalize rNumE zs i e = e1 at HC HG1
  clear hs
  go_upto_region 2 with (go_at_call 90; (with_reducible refine HC.out.mono ?_); rintro y w2 ⟨rfl, hr, hg⟩)
  have O1 := hide (show Oz 127 w (w2.alloc (.cells #[.int .i64 s, .int .i64 0, .bool false, .string { data := #[] }, .int .i64 0, .slice none 0 0] 27)) B g zs i1 e1 w.heap.size w2.heap.size #[.int .i64 s, .int .i64 0, .bool false, .string { data := #[] }, .int .i64 0, .slice none 0 0] from
    have hgl := HGL.out
    have hsz : w.heap.size < w2.heap.size := by have := hg.size; have := HS0.out; omega
    ⟨hr.alloc _, grown_al (grown_trans HK0.out hg) _, Row.new w2 _ _, by rw [HZ.out]; exact (HN0.out.far hg (by omega)).below (kept_alloc (kept_refl w2) _) hsz, HGL.out, Nat.le_refl _, hsz⟩)
  clear hr hg HR0 HN0 HK0 HS0 HC
  generalize w2.alloc (.cells #[.int .i64 s, .int .i64 0, .bool false, .string { data := #[] }, .int .i64 0, .slice none 0 0] 27) = w3 at O1 ⊢
  generalize w2.heap.size = h at O1 ⊢
  generalize hh2 : w.heap.size = h2 at O1 ⊢
  have HH2 : Hid (h2 = w.heap.size) := hide hh2.symm
  clear hh2
  by_cases h0 : s = 0
  · subst h0
    have HGD := hide (show Got (dOwn zs i) e zeroO i1 e1 from HG1.out.bnd (by rw [if_pos rfl]; exact Got.ok _ _ _))
    have e1' := O1.out.res
    rw [HZ.out] at e1'
    obtain ⟨c0, c1, c2, c3, c4, c5⟩ := O1.out.row.six
    have f0 := O1.out.res.free 0
    have f1 := O1.out.res.free 1
    have f2 := O1.out.res.free 2
    have f3 := O1.out.res.free 3
    have f4 := O1.out.res.free 4
    have f5 := O1.out.res.free 5
    obtain ⟨p0, p1, p2, p3, p4, p5⟩ := e1'.six
    clear e1'
    have O9 := hide (O1.out.six (.int .i64 0) (.int .i64 0) (.bool false) (.string { data := #[] }) (.int .i64 0) (.slice none 0 0))
    go_wp2
    refine bodyPost_ret (results_row6 Try.results60 rfl O9.out.2.2) rfl ?_
    exact ⟨⟨zeroO, none, 0⟩, i1, e1, rfl, Mine.nil_ _ _, Nat.zero_le _, O9.out.1, O9.out.2.1, HGD.out⟩
  · have hb : (s == 0) = false := by simpa using h0
    have H0 := hide h0
    clear h0
    obtain ⟨c0, c1, c2, c3, c4, c5⟩ := O1.out.row.six
    go_upto_region 4 with (fail)
    clear c0 c1 c2 c3 c4 c5
    have f1 := O1.out.row.free 1
    go_upto_region 5 with (go_at_call 90; (with_reducible refine (O1.out.num).mono ?_); rintro y v2 ⟨rfl, p2⟩; clear f1; have f1 := p2.row.free 1; obtain ⟨_, d1, d2, d3, d4, d5⟩ := p2.row.six)
    have O2 := hide (show Oz 127 w (v2.setCell ⟨h, 1, none⟩ (.int .i64 (rNumV zs i1 e1))) B g zs (rNumA zs i1 e1) (rNumE zs i1 e1) h2 h #[.int .i64 s, .int .i64 (rNumV zs i1 e1), .bool false, .string { data := #[] }, .int .i64 0, .slice none 0 0] from p2.put 1 (.int .i64 (rNumV zs i1 e1)))
    clear p2 f1 d1 d2 d3 d4 d5 O1
    have HG2 := hide (got_num zs i1 e1)
    generalize rNumV zs i1 e1 = x2 at O2 HG2 ⊢
    generalize rNumA zs i1 e1 = i2 at O2 HG2
    generalize rNumE zs i1 e1 = e2 at O2 HG2
    generalize v2.setCell _ _ = w12 at O2 ⊢
    have f2 := O2.out.row.free 2
    go_upto_region 6 with (go_at_call 91; (with_reducible refine (O2.out.flag).mono ?_); rintro y v3 ⟨rfl, p3⟩; clear f2; have f2 := p3.row.free 2; obtain ⟨_, d1, d2, d3, d4, d5⟩ := p3.row.six)
    have O3 := hide (show Oz 127 w (v3.setCell ⟨h, 2, none⟩ (.bool (rFlgV zs i2 e2))) B g zs (rFlgA zs i2 e2) (rFlgE zs i2 e2) h2 h #[.int .i64 s, .int .i64 x2, .bool (rFlgV zs i2 e2), .string { data := #[] }, .int .i64 0, .slice none 0 0] from p3.put 2 (.bool (rFlgV zs i2 e2)))
    clear p3 f2 d1 d2 d3 d4 d5 O2
    have HG3 := hide (got_flg zs i2 e2)
    generalize rFlgV zs i2 e2 = x3 at O3 HG3 ⊢
    generalize rFlgA zs i2 e2 = i3 at O3 HG3
    generalize rFlgE zs i2 e2 = e3 at O3 HG3
    generalize v3.setCell _ _ = w13 at O3 ⊢
    have f3 := O3.out.row.free 3
    go_upto_region 7 with (go_at_call 89; (with_reducible refine (O3.out.text 64).mono ?_); rintro y v4 ⟨rfl, p4⟩; clear f3; have f3 := p4.row.free 3; obtain ⟨_, d1, d2, d3, d4, d5⟩ := p4.row.six)
    have O4 := hide (show Oz 127 w (v4.setCell ⟨h, 3, none⟩ (.string (strOf (rTxtV zs i3 e3 64)))) B g zs (rTxtA zs i3 e3 64) (rTxtE zs i3 e3 64) h2 h #[.int .i64 s, .int .i64 x2, .bool x3, .string (strOf (rTxtV zs i3 e3 64)), .int .i64 0, .slice none 0 0] from p4.put 3 (.string (strOf (rTxtV zs i3 e3 64))))
    clear p4 f3 d1 d2 d3 d4 d5 O3
    have HG4 := hide (got_txt zs 64 i3 e3)
    generalize strOf (rTxtV zs i3 e3 64) = x4 at O4 HG4 ⊢
    generalize rTxtA zs i3 e3 64 = i4 at O4 HG4
    generalize rTxtE zs i3 e3 64 = e4 at O4 HG4
    generalize v4.setCell _ _ = w14 at O4 ⊢
    have f4 := O4.out.row.free 4
    go_upto_region 8 with (go_at_call 90; (with_reducible refine (O4.out.num).mono ?_); rintro y v5 ⟨rfl, p5⟩; clear f4; have f4 := p5.row.free 4; obtain ⟨_, d1, d2, d3, d4, d5⟩ := p5.row.six)
    have O5 := hide (show Oz 127 w (v5.setCell ⟨h, 4, none⟩ (.int .i64 (rNumV zs i4 e4))) B g zs (rNumA zs i4 e4) (rNumE zs i4 e4) h2 h #[.int .i64 s, .int .i64 x2, .bool x3, .string x4, .int .i64 (rNumV zs i4 e4), .slice none 0 0] from p5.put 4 (.int .i64 (rNumV zs i4 e4)))
    clear p5 f4 d1 d2 d3 d4 d5 O4
    have HG5 := hide (got_num zs i4 e4)
    generalize rNumV zs i4 e4 = x5 at O5 HG5 ⊢
    generalize rNumA zs i4 e4 = i5 at O5 HG5
    generalize rNumE zs i4 e4 = e5 at O5 HG5
    generalize v5.setCell _ _ = w15 at O5 ⊢
    have HPC := hide (getpairs_any O5.out.r 8 (by omega) (by omega))
    have f5 := O5.out.row.free 5
    go_upto_region 9 with (go_at_call 59; (with_reducible refine HPC.out.mono ?_); rintro y v6 ⟨u, l, i6, e6, rfl, hm, hl, hr, hg, hgot⟩; obtain ⟨X, cx, eu, _⟩ := hm.pin; subst eu; clear f5; have p6 := O5.out.step hr hg; have f5 := p6.row.free 5; obtain ⟨_, d1, d2, d3, d4, d5⟩ := p6.row.six)
    have hhl : h < w15.heap.size := O5.out.row.lt
    have hh2l := O5.out.lt
    have O6 := hide (show Oz 127 w (v6.setCell ⟨h, 5, none⟩ (.slice X l.length cx)) B g zs i6 e6 h2 h #[.int .i64 s, .int .i64 x2, .bool x3, .string x4, .int .i64 x5, .slice X l.length cx] from p6.put 5 (.slice X l.length cx))
    have HM6 := hide (hm.putOff (hm.offNew hhl) 5 (.slice X l.length cx))
    have HOF := hide (show Off (.slice X l.length cx) h2 from hm.offNew (by omega))
    have HBS := hide (show w.heap.size ≤ w15.heap.size from by have := O5.out.old.size; omega)
    have HL6 : Hid (l.length ≤ 8) := hide (by omega)
    have HGO := hide (show Got (dOwn zs i) e ⟨s, ⟨x2, x3, x4, x5, l⟩⟩ i6 e6 from HG1.out.bnd (by rw [if_neg H0.out]; exact HG2.out.bnd (HG3.out.bnd (HG4.out.bnd (HG5.out.bnd (hgot.bnd (Got.ok _ _ _)))))))
    clear p6 hm hl hr hg hgot f5 d1 d2 d3 d4 d5 hhl hh2l O5 HG1 HG2 HG3 HG4 HG5 HPC
    generalize v6.setCell _ _ = w16 at O6 HM6 ⊢
    have e1' := O6.out.res
    rw [HZ.out] at e1'
    obtain ⟨c0, c1, c2, c3, c4, c5⟩ := O6.out.row.six
    have f0 := O6.out.res.free 0
    have f1 := O6.out.res.free 1
    have f2 := O6.out.res.free 2
    have f3 := O6.out.res.free 3
    have f4 := O6.out.res.free 4
    have f5 := O6.out.res.free 5
    obtain ⟨p0, p1, p2, p3, p4, p5⟩ := e1'.six
    clear e1'
    have O9 := hide (O6.out.six (.int .i64 s) (.int .i64 x2) (.bool x3) (.string x4) (.int .i64 x5) (.slice X l.length cx))
    have HM9 := hide ((((((HM6.out.putOff HOF.out 0 (.int .i64 s)).putOff HOF.out 1 (.int .i64 x2)).putOff HOF.out 2 (.bool x3)).putOff HOF.out 3 (.string x4)).putOff HOF.out 4 (.int .i64 x5)).putOff HOF.out 5 (.slice X l.length cx))
    go_wp2
    refine bodyPost_ret (results_row6 Try.results60 rfl O9.out.2.2) rfl ?_
    exact ⟨⟨⟨s, ⟨x2, x3, x4, x5, l⟩⟩, X, cx⟩, i6, e6, rfl, HM9.out.mono HBS.out, HL6.out, O9.out.1, O9.out.2.1, HGO.out⟩
end Go.Proofs.Ytahfpncfkcfogaa
/- The program's Get. Conditions: the bytes lie in memory, their length has room. -/
namespace Go.Proofs.Ytahfpncfkcfogaa
set_option maxRecDepth 100000
open Go.RowKit
theorem dec_of {zs : List Int} {l : List Pr} {o : List Ow} {i1 i2 : Nat} {e1 e2 : Int} (h1 : Got (dPairs zs 32 0) 0 l i1 e1) (h2 : Got (dOwns zs 8 i1) e1 o i2 e2) :
    decS zs = if rEndE zs i2 e2 = 0 then (if rightSB ⟨l, o⟩ = true then (⟨l, o⟩, 0) else (zeroS, 4)) else (zeroS, rEndE zs i2 e2) := by
  have a1 := h1.2 rfl
  have hE : ∀ x, x ≠ 0 → rEndE zs i2 x = x := fun x hx => by unfold rEndE; rw [if_neg hx]
  cases hd : dPairs zs 32 0 with
  | error x =>
    rw [hd] at a1
    obtain ⟨r1, hx⟩ := a1
    have r2 := h2.1 (by rw [r1]; exact hx)
    have hA : dAll zs = .error x := by unfold dAll; rw [hd]; rfl
    unfold decS
    rw [hA, r2, r1, hE x hx, if_neg hx]
  | ok a =>
    obtain ⟨l', j⟩ := a
    rw [hd] at a1
    obtain ⟨rfl, rfl, r1⟩ := a1
    have a2 := h2.2 r1
    cases hw : dOwns zs 8 i1 with
    | error x =>
      rw [hw] at a2
      obtain ⟨r2, hx⟩ := a2
      have hA : dAll zs = .error x := by unfold dAll; rw [hd]; show bnd (dOwns zs 8 i1) _ = _; rw [hw]; rfl
      unfold decS
      rw [hA, r2, hE x hx, if_neg hx]
    | ok b =>
      obtain ⟨o', j'⟩ := b
      rw [hw] at a2
      obtain ⟨rfl, rfl, r2⟩ := a2
      have hA : dAll zs = if i2 < zs.length then .error 5 else .ok (⟨l, o⟩, i2) := by unfold dAll; rw [hd]; show bnd (dOwns zs 8 i1) _ = _; rw [hw]; rfl
      have hR : rEndE zs i2 e2 = if i2 < zs.length then 5 else 0 := by unfold rEndE; rw [if_pos r2]
      unfold decS
      rw [hA, hR]
      by_cases hl : i2 < zs.length
      · rw [if_pos hl, if_pos hl]; rfl
      · rw [if_neg hl, if_neg hl, if_pos rfl]
theorem take_set {α : Type} {l : List α} {k : Nat} (hk : k < l.length) (x : α) : (l.set k x).take (k + 1) = l.take k ++ [x] := by
  rw [List.take_add_one, List.getElem?_set_self hk, List.take_set, List.set_eq_of_length_le (by rw [List.length_take]; omega)]
  rfl
theorem results_se {fn : Func} {tmps : Array Value} {w : World} {a b h : Nat} {t : TypeId} {p : Value} {M : List Co} {x : Value} (hf : fn.results = #[.cell a 30, .tmp b]) (ht : tmps[a]? = some (.pointer (some ⟨h, 0, none⟩))) (hr : Row w h t (stc p M)) (hl : M.length = 8) (hb : tmps[b]? = some x) :
    (results fn tmps).run Try.prog w = .ok (.tuple #[.agg (stc p M), x]) w := by
  have hld := run_loadVar_row w h t 30 (stc p M) (0, 0) _ hr under_state rfl (by rw [stc_size p hl]; exact info_state)
  simp only [results, hf]
  simp [asAddr, ht, hb, hld]
/-- The reader at g, the answer's block h0, the state that is being filled at hs. -/
structure Gz (t : TypeId) (W w : World) (B g h0 hs : Nat) (zs : List Int) (i : Nat) (e : Int) (p : Value) (M : List Co) (s : Sm) : Prop where
  r : Rdr t w B g zs i e
  old : Below W.heap.size W w
  res : Row w h0 30 (stc (.slice none 0 0) zeroL)
  row : Row w hs 30 (stc p M)
  n : NewS W.heap.size w p M s
  og : OffS g p M
  o0 : OffS h0 p M
  os : OffS hs p M
  b0 : W.heap.size ≤ h0
  bg : h0 < g
  bs : g < hs
theorem Gz.step {t : TypeId} {W w w' : World} {B g h0 hs i i' : Nat} {zs : List Int} {e e' : Int} {p : Value} {M : List Co} {s : Sm} (h : Gz t W w B g h0 hs zs i e p M s) (hr : Rdr t w' B g zs i' e') (hg : w.grownBy w' (some g)) : Gz t W w' B g h0 hs zs i' e' p M s :=
  have h1 := h.b0
  have h2 := h.bg
  have h3 := h.bs
  ⟨hr, h.old.grown hg h.old.size (fun k hk => by cases hk; omega), h.res.far hg (by omega), h.row.far hg (by omega), h.n.grownOff hg h.og, h.og, h.o0, h.os, h1, h2, h3⟩
theorem Gz.set {t : TypeId} {W w : World} {B g h0 hs i k : Nat} {zs : List Int} {e : Int} {p : Value} {M : List Co} {s : Sm} (h : Gz t W w B g h0 hs zs i e p M s) (x : Co) (hx : Mine W.heap.size w x.p x.o.r.l) (hl : x.o.r.l.length ≤ 3518437208780) (hog : Off x.p g) (ho0 : Off x.p h0) (hos : Off x.p hs) (hrd : Rdr t (w.setRow hs (stc p (M.set k x))) B g zs i e) :
    Gz t W (w.setRow hs (stc p (M.set k x))) B g h0 hs zs i e p (M.set k x) ⟨s.l, (ows M).set k x.o⟩ :=
  have h1 := h.b0
  have h2 := h.bg
  have h3 := h.bs
  have off : ∀ b, OffS b p M → Off x.p b → OffS b p (M.set k x) := fun b hb hxb => ⟨hb.1, fun y hy => by
    rcases List.mem_or_eq_of_mem_set hy with hy | rfl
    · exact hb.2 y hy
    · exact hxb⟩
  have ng := h.n.grownOff (setRow_grown w hs (stc p (M.set k x))) h.os
  ⟨hrd, below_setRow h.old (by omega) _, h.res.setRow_other (by omega) _, h.row.setRow _,
   ⟨ng.pin, ng.room, by rw [List.length_set]; exact ng.eight, fun y hy => by
      rcases List.mem_or_eq_of_mem_set hy with hy | rfl
      · exact ng.own y hy
      · exact ⟨hx.grownOff (setRow_grown w hs _) hos, hl⟩, by unfold ows; rw [List.map_set]⟩,
   off g h.og hog, off h0 h.o0 ho0, off hs h.os hos, h1, h2, h3⟩
/-- What Get answers. -/
def AnsG (w : World) (zs : List Int) (y : Ending) (w' : World) : Prop :=
  ∃ p M, y = .returned (.tuple #[.agg (stc p M), .int .i64 (decS zs).2]) ∧ NewS w.heap.size w' p M (decS zs).1 ∧ Below w.heap.size w w'
theorem fill_pairs {A : Option Addr} {n c : Nat} : Instr.fill (fun x => ([(0, 1), (1, 48)] : List (Nat × Nat))[x]?) (Value.agg #[.slice none 0 0, .int .i64 0, .int .i64 0, .bool false, .string { data := #[] }, .int .i64 0, .slice none 0 0, .int .i64 0, .int .i64 0, .bool false, .string { data := #[] }, .int .i64 0, .slice none 0 0, .int .i64 0, .int .i64 0, .bool false, .string { data := #[] }, .int .i64 0, .slice none 0 0, .int .i64 0, .int .i64 0, .bool false, .string { data := #[] }, .int .i64 0, .slice none 0 0, .int .i64 0, .int .i64 0, .bool false, .string { data := #[] }, .int .i64 0, .slice none 0 0, .int .i64 0, .int .i64 0, .bool false, .string { data := #[] }, .int .i64 0, .slice none 0 0, .int .i64 0, .int .i64 0, .bool false, .string { data := #[] }, .int .i64 0, .slice none 0 0, .int .i64 0, .int .i64 0, .bool false, .string { data := #[] }, .int .i64 0, .slice none 0 0]).cells [(0, .slice A n c)] = some (stc (.slice A n c) zeroL) := by kernel_rfl
theorem exec_pairs {o : Oper} {a : Act} {w : World} {x : Operand} {A : Option Addr} {n c : Nat} (ho : o.op = .build 30 #[(0, x)]) (hx : a.eval x = .slice A n c) :
    (execOp a.eval o).run Try.prog w = .ok (.value (.agg (stc (.slice A n c) zeroL))) w := by
  have hf := fill_pairs (A := A) (n := n) (c := c)
  unfold execOp
  simp only [ho]
  simp [Instr.build, hx]
  rw [hf]
  rfl
theorem wpList_buildp {ops : Array Oper} {rest : List Oper} {d : Option Tmp} {ty : TypeId} {ps : String} {af : Array Edge} {x : Operand} {a : Act} {w : World} {Q : Exit → Act → World → Prop} {A : Option Addr} {n c : Nat}
    (hx : a.eval x = .slice A n c) (h : wpList Try.prog ops Q rest (a.put d (.agg (stc (.slice A n c) zeroL))) w) :
    wpList Try.prog ops Q ({ dst := d, op := .build 30 #[(0, x)], type := ty, pos := ps, after := af, guard := none } :: rest) a w :=
  wpList_plain rfl fun K hK => by
    unfold Oper.wp
    simp only [exec_pairs (o := { dst := d, op := .build 30 #[(0, x)], type := ty, pos := ps, after := af, guard := none }) rfl hx]
    exact hK _ _ h
theorem off_nil (k : Nat) : Off (.slice none 0 0) k := fun e => by cases e
theorem offS_zero {k : Nat} {p : Value} (h : Off p k) : OffS k p zeroL := ⟨h, fun x hx => by
  have : x = zeroC := by simpa [zeroL] using hx
  subst this
  exact off_nil k⟩
theorem Gz.start {W w1 w2 w3 : World} {g i1 : Nat} {zs : List Int} {e1 : Int} {X : Option Addr} {cx : Nat} {l : List Pr} (hk1 : Below W.heap.size W w1) (hr1 : Row w1 W.heap.size 30 (stc (.slice none 0 0) zeroL)) (hg : w1.heap.size ≤ g) (hgl : g < w2.heap.size) (hb2 : Below w1.heap.size w1 w2) (hm : Mine w2.heap.size w3 (.slice X l.length cx) l) (hl : l.length ≤ 1000) (hr : Rdr 127 w3 g g zs i1 e1) (hg3 : w2.grownBy w3 (some g)) :
    Gz 127 W (w3.alloc (.cells (stc (.slice X l.length cx) zeroL) 30)) g g W.heap.size w3.heap.size zs i1 e1 (.slice X l.length cx) zeroL ⟨l, ows zeroL⟩ :=
  have h1 := hr1.lt
  have h2 := hb2.size
  have h3 := hg3.size
  have h4 := hk1.size
  ⟨hr.alloc _, (kept_trans hk1 hb2 |>.grown hg3 (by omega) (fun k hk => by cases hk; omega)).alloc (by omega) _, ((hr1.below hb2 h1).far hg3 (by omega)).below (kept_alloc (kept_refl w3) _) (by omega), Row.new w3 _ _,
   ⟨(hm.mono (by omega)).alloc _, show l.length ≤ 3518437208780 by omega, rfl, fun x hx => by
      have : x = zeroC := by simpa [zeroL] using hx
      subst this
      exact ⟨Mine.nil_ _ _, Nat.zero_le _⟩, rfl⟩,
   offS_zero (hm.offNew hgl), offS_zero (hm.offNew (by omega)), offS_zero (hm.offOld (Nat.le_refl _)), Nat.le_refl _, by omega, by omega⟩
theorem zero_new (b : Nat) (w : World) : NewS b w (.slice none 0 0) zeroL zeroS := ⟨Mine.nil_ _ _, Nat.zero_le _, rfl, fun x hx => by
  have : x = zeroC := by simpa [zeroL] using hx
  subst this
  exact ⟨Mine.nil_ _ _, Nat.zero_le _⟩, rfl⟩
end Go.Proofs.Ytahfpncfkcfogaa
/- The program's Get. Conditions: the bytes lie in memory, their length has room. -/
namespace Go.Proofs.Ytahfpncfkcfogaa
set_option maxRecDepth 100000
open Go.RowKit
set_option maxHeartbeats 8000000 in
theorem getS_any (A : Option Addr) (n c : Nat) (zs : List Int) (w : World) (hn : zs.length = n) (hz : Lies w A zs) (ho : Octets zs) (hc : A = none → c = 0) (ln : n ≤ 140737488355328) :
    Calls Try.prog 30 #[.slice A n c] w (AnsG w zs) := by
  have HR1 := hide (Row.new w 30 (stc (.slice none 0 0) zeroL))
  have HK1 := hide (kept_alloc (kept_refl w) (.cells (stc (.slice none 0 0) zeroL) 30))
  have HP := hide (fun w1 (hb : Below w.heap.size w w1) => pread_any A n c zs w1 hn (hz.below hb) ho hc ln)
  clear hn hz ho hc ln
  go_enter Try.func30, Try.ntmps30
  go_upto_region 1 with (fail)
  rw [zero_state]
  generalize w.alloc (.cells (stc (.slice none 0 0) zeroL) 30) = w1 at HR1 HK1 ⊢
  go_upto_region 2 with (go_at_call 58; (with_reducible refine (HP.out w1 HK1.out).mono ?_); rintro y w2 ⟨g, rfl, hg2, hr2, hb2⟩)
  have HPC := hide (getpairs_any hr2 32 (by omega) (by omega))
  have HGG := hide (And.intro hg2 (And.intro hr2.lt hb2))
  clear hg2 hb2 hr2
  go_upto_region 3 with (first
    | (go_at_call 59; (with_reducible refine HPC.out.mono ?_); rintro y w3 ⟨u, l, i1, e1, rfl, hm3, hl3, hr3, hg3, hgot⟩; obtain ⟨X, cx, eu, hj⟩ := hm3.pin; subst eu; clear hj; dsimp only; rename_i hK; refine hK _ _ ?_; refine wpList_buildp (by rfl) ?_; simp only [Act.put, List.setIfInBounds_toArray, List.set_cons_zero, List.set_cons_succ])
    | ((with_reducible refine wpList_store49n (M := zeroL) ?_ ?_ (slice_one X l.length cx) rfl ?_); rfl; rfl))
  try simp only [Act.put]
  have HG3 := hide (Gz.start HK1.out HR1.out HGG.out.1 HGG.out.2.1 HGG.out.2.2 hm3 (by omega) hr3 hg3)
  have HGP := hide hgot
  clear hm3 hl3 hr3 hg3 hgot HPC HGG HR1 HK1 HP
  generalize w3.alloc (.cells (stc (.slice X l.length cx) zeroL) 30) = w4 at HG3 ⊢
  generalize w3.heap.size = hs at HG3 ⊢
  generalize hh : w.heap.size = h0 at HG3 ⊢
  have HH : Hid (h0 = w.heap.size) := hide hh.symm
  clear hh
  go_wp2
  go_loopw [13] (fun j wr => ∃ (k : Nat) (M : List Co) (i' : Nat) (e' : Int), k ≤ 8 ∧ j = .int .i64 k ∧ Hid (Gz 127 w wr g g h0 hs zs i' e' (.slice X l.length cx) M ⟨l, ows M⟩) ∧ Hid (Fol (dOwns zs) i1 e1 k ((ows M).take k) i' e')) (fun j _ => 8 - (intOf j).toNat)
  case atStart => exact ⟨0, zeroL, i1, e1, Nat.zero_le _, rfl, HG3, Fol.start _ _ _⟩
  case round =>
    obtain ⟨k, M, i', e', hk, rfl, HG, HF⟩ := hrel
    by_cases hlt : k < 8
    · have hlt' : (k : Int) < 8 := by omega
      have H8 := hide HG.out.n.eight
      obtain ⟨o, ho⟩ : ∃ o, M[k]? = some o := ⟨_, List.getElem?_eq_getElem (by rw [HG.out.n.eight]; exact hlt)⟩
      have HO := hide ho
      clear ho
      have HQ := hide (getowner_any HG.out.r)
      have HLT := hide (And.intro (show hs < wr.heap.size from HG.out.row.lt) (And.intro HG.out.bs HG.out.bg))
      go_wp2_with (first
        | (go_at_call 60; (with_reducible refine HQ.out.mono ?_); rintro y w5 ⟨x, i2, e2, rfl, hm5, hl5, hr5, hg5, hgot⟩; have G5 := hide (HG.out.step hr5 hg5))
        | ((with_reducible refine wpList_storeO49 (o' := x) ?_ ?_ G5.out.row H8.out HO.out ?_); rfl; rfl))
      have G6 := hide (G5.out.set (k := k) x (hm5.mono HG.out.old.size) (by omega) (hm5.offNew (by have := HLT.out; omega)) (hm5.offNew (by have := HLT.out; omega)) (hm5.offNew (by have := HLT.out; omega)) (G5.out.r.far (setRow_grown w5 hs _) (by have := HLT.out; omega) (by have := HLT.out; omega)))
      have HF6 := hide (HF.out.own hgot)
      have HT6 : Hid ((ows (M.set k x)).take (k + 1) = (ows M).take k ++ [x.o]) := hide (by unfold ows; rw [List.map_set]; exact take_set (by rw [List.length_map, H8.out]; exact hlt) x.o)
      clear hm5 hl5 hr5 hg5 hgot G5
      go_roundw
      case rel => exact ⟨k + 1, M.set k x, i2, e2, by omega, by go_num, hide (by have := G6.out; unfold ows at *; rw [List.map_set]; exact this), hide (by rw [HT6.out]; exact HF6.out)⟩
      case measure => simp [intOf]; omega
    · obtain rfl : k = 8 := by omega
      have H8 := hide HG.out.n.eight
      have HT : Hid ((ows M).take 8 = ows M) := hide (List.take_of_length_le (by unfold ows; rw [List.length_map, H8.out]; exact Nat.le_refl _))
      have HD := hide (dec_of (o := ows M) HGP.out (by have := HF.out.owns_end; rw [HT.out] at this; exact this))
      have HEC := hide (pend_any HG.out.r)
      generalize rEndE zs i' e' = ee at HD HEC
      clear HGP HF HT HG3
      by_cases h0e : ee = 0
      · subst h0e
        rw [if_pos rfl] at HD
        go_upto_region 11 with (go_at_call 61; (with_reducible refine HEC.out.mono ?_); rintro y w5 ⟨rfl, hr5, hg5⟩)
        have G5 := hide (HG.out.step hr5 hg5)
        clear hr5 hg5 HG HEC
        have HRI := hide (sright_any _ M _ w5 G5.out.n.isS)
        obtain ⟨t, ht⟩ : ∃ t, rightSB ⟨l, ows M⟩ = t := ⟨_, rfl⟩
        rw [ht] at HRI HD
        clear ht
        cases t
        · rw [if_neg (by decide)] at HD
          go_wp2_with (first
            | (go_at_call 20; (with_reducible refine HRI.out.mono ?_); rintro y w6 ⟨rfl, hb6⟩; have RS := hide (G5.out.res.below hb6 G5.out.res.lt))
            | ((with_reducible refine wpList_load49 ?_ G5.out.row H8.out ?_); rfl)
            | ((with_reducible refine wpList_store49 (q := .slice none 0 0) (M := zeroL) ?_ ?_ (slice_one none 0 0) RS.out rfl rfl ?_); rfl; exact congrArg Value.agg zero_state))
          refine bodyPost_ret (results_se Try.results30 rfl (RS.out.setRow _) rfl rfl) rfl ?_
          exact ⟨.slice none 0 0, zeroL, by rw [HD.out]; rfl, by rw [HD.out]; exact zero_new _ _, below_setRow (kept_trans G5.out.old hb6) G5.out.b0 _⟩
        · rw [if_pos rfl] at HD
          go_wp2_with (first
            | (go_at_call 20; (with_reducible refine HRI.out.mono ?_); rintro y w6 ⟨rfl, hb6⟩; have RS := hide (G5.out.res.below hb6 G5.out.res.lt); have RT := hide (G5.out.row.below hb6 G5.out.row.lt))
            | ((with_reducible refine wpList_load49 ?_ RT.out H8.out ?_); rfl)
            | ((with_reducible refine wpList_load49 ?_ G5.out.row H8.out ?_); rfl)
            | ((with_reducible refine wpList_store49 (q := .slice X l.length cx) (M := M) ?_ ?_ (slice_one X l.length cx) RS.out rfl H8.out ?_); rfl; rfl))
          refine bodyPost_ret (results_se Try.results30 rfl (RS.out.setRow _) H8.out rfl) rfl ?_
          exact ⟨.slice X l.length cx, M, by rw [HD.out]; rfl, by rw [HD.out]; exact (G5.out.n.below hb6).grownOff (setRow_grown _ _ _) G5.out.o0, below_setRow (kept_trans G5.out.old hb6) G5.out.b0 _⟩
      · rw [if_neg h0e] at HD
        have hne : (ee != 0) = true := by simpa using h0e
        have hne2 : (ee == 0) = false := by simpa using h0e
        clear h0e
        go_wp2_with (first
          | (go_at_call 61; (with_reducible refine HEC.out.mono ?_); rintro y w5 ⟨rfl, hr5, hg5⟩; have G5 := hide (HG.out.step hr5 hg5))
          | ((with_reducible refine wpList_store49 (q := .slice none 0 0) (M := zeroL) ?_ ?_ (slice_one none 0 0) G5.out.res rfl rfl ?_); rfl; exact congrArg Value.agg zero_state))
        refine bodyPost_ret (results_se Try.results30 rfl (G5.out.res.setRow _) rfl rfl) rfl ?_
        exact ⟨.slice none 0 0, zeroL, by rw [HD.out]; rfl, by rw [HD.out]; exact zero_new _ _, below_setRow G5.out.old G5.out.b0 _⟩
end Go.Proofs.Ytahfpncfkcfogaa
/- A state's bytes are bytes. No condition. -/
namespace Go.Proofs.Ytahfpncfkcfogaa
set_option maxRecDepth 100000
open Go.RowKit
theorem wpList_load49g {ops : Array Oper} {rest : List Oper} {d : Option Tmp} {ty : TypeId} {ps : String} {af : Array Edge} {gd : Option (Nat × Bool)} {x : Operand} {a : Act} {w : World} {Q : Exit → Act → World → Prop} {b : Nat} {t : TypeId} {p : Value} {L : List Co}
    (hw : Region.wanted ({ dst := d, op := .load 30 x, type := ty, pos := ps, after := af, guard := gd } : Oper) (yielded ops a.tmps) = true) (hx : a.eval x = .pointer (some ⟨b, 0, none⟩)) (R : Row w b t (stc p L)) (hl : L.length = 8) (h : wpList Try.prog ops Q rest (a.put d (.agg (stc p L))) w) :
    wpList Try.prog ops Q ({ dst := d, op := .load 30 x, type := ty, pos := ps, after := af, guard := gd } :: rest) a w :=
  wpList_step fun K hK => by
    rw [if_pos hw]
    unfold Oper.wp execOp
    simp only [hx, Sem.run_bind, Sem.run_pure, load_state R hl, Result.andThen_ok]
    exact hK _ _ h
theorem octets_app {a b : List Int} (h : Octets a) (k : Octets b) : Octets (a ++ b) := fun z hz => (List.mem_append.1 hz).elim (h z) (k z)
theorem octets_nil : Octets [] := fun z hz => by cases hz
theorem octets_text7 (s : ByteArray) : Octets (text7 s) := by
  unfold text7
  exact octets_app (octets_num7 _) (octets_strL s)
theorem octets_flg7 (f : Bool) : Octets (flg7 f) := fun z hz => by
  unfold flg7 at hz
  rw [List.mem_singleton] at hz
  subst hz
  cases f <;> decide
theorem octets_encP (l : List Pr) : Octets (encP l) := by
  unfold encP
  refine octets_app (octets_num7 _) fun z hz => ?_
  obtain ⟨p, _, hp⟩ := List.mem_flatMap.1 hz
  unfold encR at hp
  exact octets_app (octets_text7 _) (octets_app (octets_text7 _) (octets_num7 _)) z hp
theorem octets_encO (o : Ow) : Octets (encO o) := by
  unfold encO
  refine octets_app (octets_num7 _) ?_
  split
  · exact octets_nil
  · exact octets_app (octets_num7 _) (octets_app (octets_flg7 _) (octets_app (octets_text7 _) (octets_app (octets_num7 _) (octets_encP _))))
theorem octets_encS (s : Sm) : Octets (encS s) := by
  unfold encS
  split
  · unfold encA
    refine octets_app (octets_encP _) fun z hz => ?_
    obtain ⟨o, _, ho⟩ := List.mem_flatMap.1 hz
    exact octets_encO o z ho
  · exact octets_nil
/-- Get of bytes of the call's own that are a state's. -/
theorem getS_by {b : Nat} {w : World} {v : Value} {s : Sm} (h : By b w v (encS s)) (hs : decS (encS s) = (s, 0)) (h8 : s.o.length = 8) :
    Calls Try.prog 30 #[v] w fun y w' => ∃ p M, y = .returned (.tuple #[.agg (stc p M), .int .i64 0]) ∧ NewS w.heap.size w' p M s ∧ Below w.heap.size w w' := by
  obtain ⟨A, c, rfl, hA, _, _, hl⟩ := h.form
  have k := getS_any A (encS s).length c (encS s) w rfl hl (octets_encS s) hA (by have := encS_len h8; omega)
  unfold AnsG at k
  rw [hs] at k
  exact k
end Go.Proofs.Ytahfpncfkcfogaa
