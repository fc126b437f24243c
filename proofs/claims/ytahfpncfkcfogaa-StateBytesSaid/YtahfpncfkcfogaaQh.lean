/- The document's GetState. Conditions: the bytes lie in memory, their length has room. -/
import Derived.Test.YtahfpncfkcfogaaGbk
import Derived.Test.YtahfpncfkcfogaaQg
import Derived.LoopTactic
namespace Go.Proofs.Ytahfpncfkcfogaa
set_option maxRecDepth 100000
open Go.RowKit
theorem num_some {zs : List Int} {i : Nat} {e : Int} (h : rNumV zs i e ≠ 0) : rNumE zs i e = 0 := by
  unfold rNumV at h
  split at h
  · assumption
  · exact absurd rfl h
theorem Gz.rstart {W w1 w2 w3 : World} {B g i1 : Nat} {zs : List Int} {e1 : Int} {X : Option Addr} {cx : Nat} {l : List Pr} (hk1 : Below W.heap.size W w1) (hr1 : Row w1 W.heap.size 30 (stc (.slice none 0 0) zeroL)) (hg : w1.heap.size ≤ g) (hgl : g < w2.heap.size) (hb2 : Below w1.heap.size w1 w2) (hm : Mine w2.heap.size w3 (.slice X l.length cx) l) (hl : l.length ≤ 1000) (hr : Rdr 105 w3 B g zs i1 e1) (hg3 : w2.grownBy w3 (some g)) :
    Gz 105 W (w3.alloc (.cells (stc (.slice X l.length cx) zeroL) 30)) B g W.heap.size w3.heap.size zs i1 e1 (.slice X l.length cx) zeroL ⟨l, ows zeroL⟩ :=
  have h1 := hr1.lt
  have h2 := hb2.size
  have h3 := hg3.size
  have h4 := hk1.size
  ⟨hr.alloc _, (kept_trans hk1 hb2 |>.grown hg3 (by omega) (fun k hk => by cases hk; omega)).alloc (by omega) _, ((hr1.below hb2 h1).far hg3 (by omega)).below (kept_alloc (kept_refl w3) _) (by omega), Row.new w3 _ _,
   ⟨(hm.mono (by omega)).alloc _, show l.length ≤ 3518437208780 by omega, rfl, fun x hx => by
      have : x = zeroC := by simpa [zeroL] using hx
      subst this
      exact ⟨Mine.nil_ _ _, Nat.zero_le _⟩, rfl⟩,
   offS_zero (hm.offNew hgl), offS_zero (hm.offNew (by omega)), offS_zero (hm.offOld (Nat.le_refl _)), Nat.le_refl _, by omega, by omega⟩
/-- .. and an owner that is being filled. -/
structure Hz (t : TypeId) (W w : World) (B g h0 hs : Nat) (zs : List Int) (i : Nat) (e : Int) (p : Value) (M : List Co) (s : Sm) (k : Nat) (cs : Array Value) : Prop where
  z : Gz t W w B g h0 hs zs i e p M s
  row : Row w k 27 cs
  lt : hs < k
  ok : OffS k p M
section
variable {t : TypeId} {W w w' : World} {B g h0 hs i i' k : Nat} {zs : List Int} {e e' : Int} {p : Value} {M : List Co} {s : Sm} {cs : Array Value}
theorem Hz.step (h : Hz t W w B g h0 hs zs i e p M s k cs) (hr : Rdr t w' B g zs i' e') (hg : w.grownBy w' (some g)) : Hz t W w' B g h0 hs zs i' e' p M s k cs :=
  have h1 := h.z.bs
  have h2 := h.lt
  ⟨h.z.step hr hg, h.row.far hg (by omega), h2, h.ok⟩
theorem Hz.put (h : Hz t W w B g h0 hs zs i e p M s k cs) (j : Nat) (u : Value) : Hz t W (w.setCell ⟨k, j, none⟩ u) B g h0 hs zs i e p M s k (cs.setIfInBounds j u) :=
  have h1 := h.z.bs
  have h2 := h.lt
  have h3 := h.z.bg
  have h4 := h.z.b0
  have h5 := h.z.r.low
  have gs := grown_setCell w k j u
  ⟨⟨h.z.r.far gs (by omega) (by omega), h.z.old.grown gs h.z.old.size (fun k' hk => by cases hk; omega), h.z.res.putOff (by omega) u, h.z.row.putOff (by omega) u, h.z.n.grownOff gs h.ok, h.z.og, h.z.o0, h.z.os, h4, h3, h1⟩, h.row.put j u, h2, h.ok⟩
end
section
variable {W w : World} {B g h0 hs i k : Nat} {zs : List Int} {e : Int} {p : Value} {M : List Co} {s : Sm} {cs : Array Value}
theorem Hz.num (h : Hz 105 W w B g h0 hs zs i e p M s k cs) : Calls Try.prog 64 #[.pointer (some ⟨g, 0, none⟩)] w fun y w' => y = .returned (.int .i64 (rNumV zs i e)) ∧ Hz 105 W w' B g h0 hs zs (rNumA zs i e) (rNumE zs i e) p M s k cs :=
  (rnum_to h.z.r).mono fun _ _ ⟨hy, hr, hg⟩ => ⟨hy, h.step hr hg⟩
theorem Hz.text (h : Hz 105 W w B g h0 hs zs i e p M s k cs) (m : Int) : Calls Try.prog 66 #[.pointer (some ⟨g, 0, none⟩), .int .i64 m] w fun y w' => y = .returned (.string (strOf (rTxtV zs i e m))) ∧ Hz 105 W w' B g h0 hs zs (rTxtA zs i e m) (rTxtE zs i e m) p M s k cs :=
  (rtext_to h.z.r m).mono fun _ _ ⟨hy, hr, hg⟩ => ⟨hy, h.step hr hg⟩
theorem Hz.flag (h : Hz 105 W w B g h0 hs zs i e p M s k cs) : Calls Try.prog 65 #[.pointer (some ⟨g, 0, none⟩)] w fun y w' => y = .returned (.bool (rFlgV zs i e)) ∧ Hz 105 W w' B g h0 hs zs (rFlgA zs i e) (rFlgE zs i e) p M s k cs :=
  (rflag_to h.z.r).mono fun _ _ ⟨hy, hr, hg⟩ => ⟨hy, h.step hr hg⟩
end
set_option maxHeartbeats 8000000 in
theorem rgetS_any (A : Option Addr) (n c : Nat) (zs : List Int) (w : World) (hn : zs.length = n) (hz : Lies w A zs) (ho : Octets zs) (hc : n ≤ c) (ln : n ≤ 140737488355328) :
    Calls Try.prog 31 #[.slice A n c] w (AnsG w zs) := by
  have HR1 := hide (Row.new w 30 (stc (.slice none 0 0) zeroL))
  have HK1 := hide (kept_alloc (kept_refl w) (.cells (stc (.slice none 0 0) zeroL) 30))
  have HP := hide (fun w1 (hb : Below w.heap.size w w1) => rread_any A n c w.heap.size zs w1 hn (show Deep w1 w.heap.size A zs from (hz.deep).keep (fun k hk => hb.block k hk)) hb.size ho hc ln)
  clear hn hz ho hc ln
  go_enter Try.func31, Try.ntmps31
  go_upto_region 1 with (fail)
  rw [zero_state]
  generalize w.alloc (.cells (stc (.slice none 0 0) zeroL) 30) = w1 at HR1 HK1 ⊢
  go_upto_region 2 with (go_at_call 62; (with_reducible refine (HP.out w1 HK1.out).mono ?_); rintro y w2 ⟨g, rfl, hg2, hr2, hb2⟩)
  have HPC := hide (rgetpairs_any hr2 32 (by omega) (by omega))
  have HGG := hide (And.intro hg2 (And.intro hr2.lt hb2))
  clear hg2 hb2 hr2
  go_upto_region 3 with (first
    | (go_at_call 63; (with_reducible refine HPC.out.mono ?_); rintro y w3 ⟨u, l, i1, e1, rfl, hm3, hl3, hr3, hg3, hgot⟩; obtain ⟨X, cx, eu, hj⟩ := hm3.pin; subst eu; clear hj; dsimp only; rename_i hK; refine hK _ _ ?_; refine wpList_buildp (by rfl) ?_; simp only [Act.put, List.setIfInBounds_toArray, List.set_cons_zero, List.set_cons_succ])
    | ((with_reducible refine wpList_store49n (M := zeroL) ?_ ?_ (slice_one X l.length cx) rfl ?_); rfl; rfl))
  try simp only [Act.put]
  have HG3 := hide (Gz.rstart HK1.out HR1.out HGG.out.1 HGG.out.2.1 HGG.out.2.2 hm3 (by omega) hr3 hg3)
  have HGP := hide hgot
  clear hm3 hl3 hr3 hg3 hgot HPC HGG HR1 HK1 HP
  generalize w3.alloc (.cells (stc (.slice X l.length cx) zeroL) 30) = w4 at HG3 ⊢
  generalize w3.heap.size = hs at HG3 ⊢
  obtain ⟨Bz, hBz⟩ : ∃ Bz, w.heap.size = Bz := ⟨_, rfl⟩
  have HG3 : Hid (Gz 105 w w4 Bz g w.heap.size hs zs i1 e1 (.slice X l.length cx) zeroL ⟨l, ows zeroL⟩) := hide (by rw [← hBz]; exact HG3.out)
  clear hBz
  generalize hh : w.heap.size = h0 at HG3 ⊢
  have HH : Hid (h0 = w.heap.size) := hide hh.symm
  clear hh
  go_wp2
  go_loopw [6] (fun j wr => ∃ (k : Nat) (M : List Co) (i' : Nat) (e' : Int), k ≤ 8 ∧ j = .int .i64 k ∧ Hid (Gz 105 w wr Bz g h0 hs zs i' e' (.slice X l.length cx) M ⟨l, ows M⟩) ∧ Hid (Fol (dOwns zs) i1 e1 k ((ows M).take k) i' e')) (fun j _ => 8 - (intOf j).toNat)
  case atStart => exact ⟨0, zeroL, i1, e1, Nat.zero_le _, rfl, HG3, Fol.start _ _ _⟩
  case round =>
    obtain ⟨k, M, i', e', hk, rfl, HG, HF⟩ := hrel
    by_cases hlt : k < 8
    · have hlt' : (k : Int) < 8 := by omega
      have H8 := hide HG.out.n.eight
      obtain ⟨o, ho⟩ : ∃ o, M[k]? = some o := ⟨_, List.getElem?_eq_getElem (by rw [HG.out.n.eight]; exact hlt)⟩
      have HO := hide ho
      clear ho
      have HLT := hide (And.intro (show hs < wr.heap.size from HG.out.row.lt) (And.intro HG.out.bs HG.out.bg))
      have HNC := hide (rnum_to HG.out.r)
      have HG1 := hide (got_num zs i' e')
      have HSO := hide (fun h => num_some (zs := zs) (i := i') (e := e') h)
      generalize rNumV zs i' e' = s at HNC HG1 HSO
      generalize rNumA zs i' e' = i20 at HNC HG1 HSO
      generalize rNumE zs i' e' = e20 at HNC HG1 HSO
      go_upto_region 7 with (go_at_call 64; (with_reducible refine HNC.out.mono ?_); rintro y w5 ⟨rfl, hr5, hg5⟩)
      have O1 := hide (show Hz 105 w (w5.alloc (.cells #[.int .i64 s, .int .i64 0, .bool false, .string { data := #[] }, .int .i64 0, .slice none 0 0] 27)) Bz g h0 hs zs i20 e20 (.slice X l.length cx) M ⟨l, ows M⟩ w5.heap.size #[.int .i64 s, .int .i64 0, .bool false, .string { data := #[] }, .int .i64 0, .slice none 0 0] from
        have G5 := HG.out.step hr5 hg5
        have ka := kept_alloc (kept_refl w5) (.cells #[.int .i64 s, .int .i64 0, .bool false, .string { data := #[] }, .int .i64 0, .slice none 0 0] 27)
        ⟨⟨G5.r.alloc _, kept_trans G5.old ka, G5.res.below ka G5.res.lt, G5.row.below ka G5.row.lt, G5.n.below ka, G5.og, G5.o0, G5.os, G5.b0, G5.bg, G5.bs⟩, Row.new w5 _ _, G5.row.lt, G5.n.offOld (Nat.le_refl _)⟩)
      clear hr5 hg5 HG HNC
      generalize w5.alloc (.cells #[.int .i64 s, .int .i64 0, .bool false, .string { data := #[] }, .int .i64 0, .slice none 0 0] 27) = w6 at O1 ⊢
      generalize w5.heap.size = ho at O1 ⊢
      by_cases h0s : s = 0
      · subst h0s
        have HGD := hide (show Got (dOwn zs i') e' zeroO i20 e20 from HG1.out.bnd (by rw [if_pos rfl]; exact Got.ok _ _ _))
        obtain ⟨c0, c1, c2, c3, c4, c5⟩ := O1.out.row.six
        go_wp2_with ((with_reducible refine wpList_storeO49 (o' := ⟨zeroO, none, 0⟩) ?_ ?_ O1.out.z.row H8.out HO.out ?_); rfl; rfl)
        have G6 := hide (O1.out.z.set (k := k) ⟨zeroO, none, 0⟩ (Mine.nil_ _ _) (Nat.zero_le _) (off_nil _) (off_nil _) (off_nil _) (O1.out.z.r.far (setRow_grown w6 hs _) (by have := HLT.out; omega) (by have := O1.out.z.r.low; have := HLT.out; omega)))
        have HF6 := hide (HF.out.own HGD.out)
        have HT6 : Hid ((ows (M.set k ⟨zeroO, none, 0⟩)).take (k + 1) = (ows M).take k ++ [zeroO]) := hide (by unfold ows; rw [List.map_set]; exact take_set (by rw [List.length_map, H8.out]; exact hlt) zeroO)
        clear c0 c1 c2 c3 c4 c5
        go_roundw
        case rel => exact ⟨k + 1, M.set k ⟨zeroO, none, 0⟩, i20, e20, by omega, by go_num, hide (by have := G6.out; unfold ows at *; rw [List.map_set]; exact this), hide (by rw [HT6.out]; exact HF6.out)⟩
        case measure => simp [intOf]; omega
      · have hb1 : (s != 0) = true := by simpa using h0s
        have he0 : e20 = 0 := HSO.out h0s
        have H0 := hide h0s
        have heb : (e20 == 0) = true := by rw [he0]; rfl
        clear h0s he0 HSO
        obtain ⟨c0, c1, c2, c3, c4, c5⟩ := O1.out.row.six
        obtain ⟨A0, cA, _, _, r2, _⟩ := O1.out.z.r.cells
        go_upto_region 8 with (fail)
        clear c0 c1 c2 c3 c4 c5 r2 heb hb1
        have f1 := O1.out.row.free 1
        go_upto_region 9 with (go_at_call 64; (with_reducible refine (O1.out.num).mono ?_); rintro y v2 ⟨rfl, p2⟩; clear f1; have f1 := p2.row.free 1; obtain ⟨_, d1, d2, d3, d4, d5⟩ := p2.row.six)
        have O2 := hide (show Hz 105 w (v2.setCell ⟨ho, 1, none⟩ (.int .i64 (rNumV zs i20 e20))) Bz g h0 hs zs (rNumA zs i20 e20) (rNumE zs i20 e20) (.slice X l.length cx) M ⟨l, ows M⟩ ho #[.int .i64 s, .int .i64 (rNumV zs i20 e20), .bool false, .string { data := #[] }, .int .i64 0, .slice none 0 0] from p2.put 1 (.int .i64 (rNumV zs i20 e20)))
        clear p2 f1 d1 d2 d3 d4 d5 O1
        have HG2 := hide (got_num zs i20 e20)
        generalize rNumV zs i20 e20 = x2 at O2 HG2 ⊢
        generalize rNumA zs i20 e20 = i22 at O2 HG2
        generalize rNumE zs i20 e20 = e22 at O2 HG2
        generalize v2.setCell _ _ = z2 at O2 ⊢
        have f2 := O2.out.row.free 2
        go_upto_region 10 with (go_at_call 65; (with_reducible refine (O2.out.flag).mono ?_); rintro y v3 ⟨rfl, p3⟩; clear f2; have f2 := p3.row.free 2; obtain ⟨_, d1, d2, d3, d4, d5⟩ := p3.row.six)
        have O3 := hide (show Hz 105 w (v3.setCell ⟨ho, 2, none⟩ (.bool (rFlgV zs i22 e22))) Bz g h0 hs zs (rFlgA zs i22 e22) (rFlgE zs i22 e22) (.slice X l.length cx) M ⟨l, ows M⟩ ho #[.int .i64 s, .int .i64 x2, .bool (rFlgV zs i22 e22), .string { data := #[] }, .int .i64 0, .slice none 0 0] from p3.put 2 (.bool (rFlgV zs i22 e22)))
        clear p3 f2 d1 d2 d3 d4 d5 O2
        have HG3 := hide (got_flg zs i22 e22)
        generalize rFlgV zs i22 e22 = x3 at O3 HG3 ⊢
        generalize rFlgA zs i22 e22 = i23 at O3 HG3
        generalize rFlgE zs i22 e22 = e23 at O3 HG3
        generalize v3.setCell _ _ = z3 at O3 ⊢
        have f3 := O3.out.row.free 3
        go_upto_region 11 with (go_at_call 66; (with_reducible refine (O3.out.text 64).mono ?_); rintro y v4 ⟨rfl, p4⟩; clear f3; have f3 := p4.row.free 3; obtain ⟨_, d1, d2, d3, d4, d5⟩ := p4.row.six)
        have O4 := hide (show Hz 105 w (v4.setCell ⟨ho, 3, none⟩ (.string (strOf (rTxtV zs i23 e23 64)))) Bz g h0 hs zs (rTxtA zs i23 e23 64) (rTxtE zs i23 e23 64) (.slice X l.length cx) M ⟨l, ows M⟩ ho #[.int .i64 s, .int .i64 x2, .bool x3, .string (strOf (rTxtV zs i23 e23 64)), .int .i64 0, .slice none 0 0] from p4.put 3 (.string (strOf (rTxtV zs i23 e23 64))))
        clear p4 f3 d1 d2 d3 d4 d5 O3
        have HG4 := hide (got_txt zs 64 i23 e23)
        generalize strOf (rTxtV zs i23 e23 64) = x4 at O4 HG4 ⊢
        generalize rTxtA zs i23 e23 64 = i24 at O4 HG4
        generalize rTxtE zs i23 e23 64 = e24 at O4 HG4
        generalize v4.setCell _ _ = z4 at O4 ⊢
        have f4 := O4.out.row.free 4
        go_upto_region 12 with (go_at_call 64; (with_reducible refine (O4.out.num).mono ?_); rintro y v5 ⟨rfl, p5⟩; clear f4; have f4 := p5.row.free 4; obtain ⟨_, d1, d2, d3, d4, d5⟩ := p5.row.six)
        have O5 := hide (show Hz 105 w (v5.setCell ⟨ho, 4, none⟩ (.int .i64 (rNumV zs i24 e24))) Bz g h0 hs zs (rNumA zs i24 e24) (rNumE zs i24 e24) (.slice X l.length cx) M ⟨l, ows M⟩ ho #[.int .i64 s, .int .i64 x2, .bool x3, .string x4, .int .i64 (rNumV zs i24 e24), .slice none 0 0] from p5.put 4 (.int .i64 (rNumV zs i24 e24)))
        clear p5 f4 d1 d2 d3 d4 d5 O4
        have HG5 := hide (got_num zs i24 e24)
        generalize rNumV zs i24 e24 = x5 at O5 HG5 ⊢
        generalize rNumA zs i24 e24 = i25 at O5 HG5
        generalize rNumE zs i24 e24 = e25 at O5 HG5
        generalize v5.setCell _ _ = z5 at O5 ⊢
        have HPC := hide (rgetpairs_any O5.out.z.r 8 (by omega) (by omega))
        have f5 := O5.out.row.free 5
        go_upto_region 13 with (go_at_call 63; (with_reducible refine HPC.out.mono ?_); rintro y v6 ⟨u, m, i6, e6, rfl, hm, hl, hr, hg, hgot⟩; obtain ⟨Y, cy, eu, hj3⟩ := hm.pin; subst eu; clear hj3; clear f5; have p6 := O5.out.step hr hg; have f5 := p6.row.free 5; obtain ⟨_, d1, d2, d3, d4, d5⟩ := p6.row.six)
        have hol := O5.out.row.lt
        have hlt2 := O5.out.lt
        have O6 := hide (show Hz 105 w (v6.setCell ⟨ho, 5, none⟩ (.slice Y m.length cy)) Bz g h0 hs zs i6 e6 (.slice X l.length cx) M ⟨l, ows M⟩ ho #[.int .i64 s, .int .i64 x2, .bool x3, .string x4, .int .i64 x5, .slice Y m.length cy] from p6.put 5 (.slice Y m.length cy))
        have HM6 := hide (show Mine w.heap.size (v6.setCell ⟨ho, 5, none⟩ (.slice Y m.length cy)) (.slice Y m.length cy) m from (hm.putOff (hm.offNew hol) 5 (.slice Y m.length cy)).mono O5.out.z.old.size)
        have HOF := hide (And.intro (show Off (.slice Y m.length cy) g from hm.offNew (by have := HLT.out; omega)) (And.intro (show Off (.slice Y m.length cy) h0 from hm.offNew (by have := HLT.out; omega)) (show Off (.slice Y m.length cy) hs from hm.offNew (by omega))))
        have HL6 : Hid (m.length ≤ 8) := hide (by omega)
        have HGO := hide (show Got (dOwn zs i') e' ⟨s, ⟨x2, x3, x4, x5, m⟩⟩ i6 e6 from HG1.out.bnd (by rw [if_neg H0.out]; exact HG2.out.bnd (HG3.out.bnd (HG4.out.bnd (HG5.out.bnd (hgot.bnd (Got.ok _ _ _)))))))
        clear p6 hm hl hr hg hgot f5 d1 d2 d3 d4 d5 hol hlt2 O5 HG1 HG2 HG3 HG4 HG5 HPC
        generalize v6.setCell _ _ = w16 at O6 HM6 ⊢
        obtain ⟨c0, c1, c2, c3, c4, c5⟩ := O6.out.row.six
        go_wp2_with ((with_reducible refine wpList_storeO49 (o' := ⟨⟨s, ⟨x2, x3, x4, x5, m⟩⟩, Y, cy⟩) ?_ ?_ O6.out.z.row H8.out HO.out ?_); rfl; rfl)
        have G6 := hide (O6.out.z.set (k := k) ⟨⟨s, ⟨x2, x3, x4, x5, m⟩⟩, Y, cy⟩ HM6.out (by have := HL6.out; show m.length ≤ _; omega) HOF.out.1 HOF.out.2.1 HOF.out.2.2 (O6.out.z.r.far (setRow_grown w16 hs _) (by have := HLT.out; omega) (by have := O6.out.z.r.low; have := HLT.out; omega)))
        have HF6 := hide (HF.out.own HGO.out)
        have HT6 : Hid ((ows (M.set k ⟨⟨s, ⟨x2, x3, x4, x5, m⟩⟩, Y, cy⟩)).take (k + 1) = (ows M).take k ++ [⟨s, ⟨x2, x3, x4, x5, m⟩⟩]) := hide (by unfold ows; rw [List.map_set]; exact take_set (by rw [List.length_map, H8.out]; exact hlt) _)
        clear c0 c1 c2 c3 c4 c5
        go_roundw
        case rel => exact ⟨k + 1, M.set k ⟨⟨s, ⟨x2, x3, x4, x5, m⟩⟩, Y, cy⟩, i6, e6, by omega, by go_num, hide (by have := G6.out; unfold ows at *; rw [List.map_set]; exact this), hide (by rw [HT6.out]; exact HF6.out)⟩
        case measure => simp [intOf]; omega
    · obtain rfl : k = 8 := by omega
      have H8 := hide HG.out.n.eight
      have HT : Hid ((ows M).take 8 = ows M) := hide (List.take_of_length_le (by unfold ows; rw [List.length_map, H8.out]; exact Nat.le_refl _))
      have HD := hide (dec_of (o := ows M) HGP.out (by have := HF.out.owns_end; rw [HT.out] at this; exact this))
      have HEC := hide (rend_to HG.out.r)
      generalize rEndE zs i' e' = ee at HD HEC
      clear HGP HF HT HG3
      by_cases h0e : ee = 0
      · subst h0e
        rw [if_pos rfl] at HD
        go_upto_region 17 with (go_at_call 67; (with_reducible refine HEC.out.mono ?_); rintro y w5 ⟨rfl, hr5, hg5⟩)
        have G5 := hide (HG.out.step hr5 hg5)
        clear hr5 hg5 HG HEC
        have HRI := hide (rstate49_any (.slice X l.length cx) l M w5 G5.out.n.isS.fine G5.out.n.isS.pin G5.out.n.isS.room)
        rw [show (rightO M && rightB l) = rightSB ⟨l, ows M⟩ by unfold rightSB; rw [all_ows, Bool.and_comm]] at HRI
        obtain ⟨t, ht⟩ : ∃ t, rightSB ⟨l, ows M⟩ = t := ⟨_, rfl⟩
        rw [ht] at HRI HD
        clear ht
        cases t
        · rw [if_neg (by decide)] at HD
          go_wp2_with (first
            | (go_at_call 21; (with_reducible refine HRI.out.mono ?_); rintro y w6 ⟨rfl, hb6⟩; have RS := hide (G5.out.res.below hb6 G5.out.res.lt))
            | ((with_reducible refine wpList_load49 ?_ G5.out.row H8.out ?_); rfl)
            | ((with_reducible refine wpList_store49 (q := .slice none 0 0) (M := zeroL) ?_ ?_ (slice_one none 0 0) RS.out rfl rfl ?_); rfl; exact congrArg Value.agg zero_state))
          refine bodyPost_ret (results_se Try.results31 rfl (RS.out.setRow _) rfl rfl) rfl ?_
          exact ⟨.slice none 0 0, zeroL, by rw [HD.out]; rfl, by rw [HD.out]; exact zero_new _ _, below_setRow (kept_trans G5.out.old hb6) G5.out.b0 _⟩
        · rw [if_pos rfl] at HD
          go_wp2_with (first
            | (go_at_call 21; (with_reducible refine HRI.out.mono ?_); rintro y w6 ⟨rfl, hb6⟩; have RS := hide (G5.out.res.below hb6 G5.out.res.lt); have RT := hide (G5.out.row.below hb6 G5.out.row.lt))
            | ((with_reducible refine wpList_load49 ?_ RT.out H8.out ?_); rfl)
            | ((with_reducible refine wpList_load49 ?_ G5.out.row H8.out ?_); rfl)
            | ((with_reducible refine wpList_store49 (q := .slice X l.length cx) (M := M) ?_ ?_ (slice_one X l.length cx) RS.out rfl H8.out ?_); rfl; rfl))
          refine bodyPost_ret (results_se Try.results31 rfl (RS.out.setRow _) H8.out rfl) rfl ?_
          exact ⟨.slice X l.length cx, M, by rw [HD.out]; rfl, by rw [HD.out]; exact (G5.out.n.below hb6).grownOff (setRow_grown _ _ _) G5.out.o0, below_setRow (kept_trans G5.out.old hb6) G5.out.b0 _⟩
      · rw [if_neg h0e] at HD
        have hne : (ee != 0) = true := by simpa using h0e
        have hne2 : (ee == 0) = false := by simpa using h0e
        clear h0e
        go_wp2_with (first
          | (go_at_call 67; (with_reducible refine HEC.out.mono ?_); rintro y w5 ⟨rfl, hr5, hg5⟩; have G5 := hide (HG.out.step hr5 hg5))
          | ((with_reducible refine wpList_store49 (q := .slice none 0 0) (M := zeroL) ?_ ?_ (slice_one none 0 0) G5.out.res rfl rfl ?_); rfl; exact congrArg Value.agg zero_state))
        refine bodyPost_ret (results_se Try.results31 rfl (G5.out.res.setRow _) rfl rfl) rfl ?_
        exact ⟨.slice none 0 0, zeroL, by rw [HD.out]; rfl, by rw [HD.out]; exact zero_new _ _, below_setRow G5.out.old G5.out.b0 _⟩
end Go.Proofs.Ytahfpncfkcfogaa
